/-
  For every slice of bytes the law FnNextAll answers true: all images are met; nothing that was there is written; no condition.
-/
import Derived.Test.YtnfkafaolelkbaaO
import Derived.Test.YtnfkafaolelkbaaK
import Derived.Deep.RegionLaw
import Derived.Test.YtnfkafaolelkbaaBn
import Derived.Test.YtnfkafaolelkbaaBk
import Derived.Test.YtnfkafaolelkbaaEp
namespace Go.Proofs.Ytnfkafaolelkbaa.LFNextAll
open Go.ChangeShapes Go.WideShapes Go.ChangeAt Go.RowKit Go.Joins

set_option maxHeartbeats 4000000 in
set_option maxRecDepth 100000 in
theorem walk (a : Option Addr) (len cap : Nat) (zs : List Int) (w : World) (h : Bys w a len zs) (hl : len ≤ cap) (hm : cap ≤ 9223372036854775807) :
    Calls Try.prog 10 #[.slice a len cap] w fun e w' => e = .returned (.bool true) ∧ Below w.heap.size w w' := by
  by_cases hbig : 1048576 < len
  · clear h
    go_enter Try.func10, Try.ntmps10
    go_wp2_with fail
    go_ret
    exact ⟨rfl, Below.refl _ _⟩
  go_enter Try.func10, Try.ntmps10
  go_wp2_with fail
  refine (draw_DrawImageRank a len cap zs _ h hl hm).mono ?_
  rintro e w1 ⟨V, s, n, cg, xs, rfl, hR, hn, hb1⟩
  clear h hl hm
  have bb := Lib.hid hb1
  have p := Lib.hid hR
  clear hR hb1
  have hbx : Below w1.heap.size w1 (w1.alloc (.cells #[.int .i64 V, .slice s n cg] 30)) := (Below.refl _ _).alloc (Nat.le_refl _) _
  replace p := Lib.hid (p.out.bel hbx)
  replace bb := Lib.hid (bb.out.trans (hbx.mono bb.out.size))
  clear hbx
  have p0 : (w1.alloc (.cells #[.int .i64 V, .slice s n cg] 30)).cell? ⟨w1.heap.size, 0, none⟩ = some (.int .i64 V) := by simp
  have p1 : (w1.alloc (.cells #[.int .i64 V, .slice s n cg] 30)).cell? ⟨w1.heap.size, 1, none⟩ = some (.slice s n cg) := by simp
  rcases rko_ways (V := V) p.out.1 with h1 | ⟨W, k, rfl, hI, hct, h1, h2, h3, h4⟩
  case inl =>
    go_wp2_with fail
    refine (rk_ok h1 (by omega) _ _ _ p.out).mono ?_
    rintro e w2 ⟨rfl, hb⟩
    have szw2 : w1.heap.size + 1 ≤ w2.heap.size := by have := hb.size; simpa using this
    replace p0 := kept hb (block_lt p0) p0
    replace p1 := kept hb (block_lt p1) p1
    replace p := Lib.hid (p.out.bel hb)
    replace bb := Lib.hid (bb.out.trans (hb.mono bb.out.size))
    clear hb
    go_wp2_with fail
    refine (rk_sok h1 (by omega) _ _ _ p.out).mono ?_
    rintro e w3 ⟨rfl, hb⟩
    have szw3 := hb.size
    replace p0 := kept hb (block_lt p0) p0
    replace p1 := kept hb (block_lt p1) p1
    replace p := Lib.hid (p.out.bel hb)
    replace bb := Lib.hid (bb.out.trans (hb.mono bb.out.size))
    clear hb
    go_wp2_with fail
    go_ret
    exact ⟨rfl, bb.out⟩
  have hW6 := hI.w6
  have hW1 := hI.w1
  have hn1 := hI.l1
  have hn6 := hI.l6
  have lr : (rsL xs W n).length = n := rs_len _ _ _
  have lc : (csL xs n W).length = W := cs_len _ _ _
  have hsv := hI.sumsV
  have hcb := cnt_16 (ctdB_parts hct).2
  have hrs := Lib.hid (fun s c wx hx => rs_ok hI s c wx hx)
  have hcs := Lib.hid (fun s c wx hx => cs_ok hI s c wx hx)
  obtain ⟨R, hR0⟩ : ∃ R, rsL xs W n = R := ⟨_, rfl⟩
  obtain ⟨C, hC0⟩ : ∃ C, csL xs n W = C := ⟨_, rfl⟩
  rw [hR0] at lr hsv hct h2 h3 h4 hrs hcb
  rw [hC0] at lc hsv hct h2 h3 h4 hcs hcb
  obtain ⟨M, hM⟩ : ∃ M, cntS R C = M := ⟨_, rfl⟩
  have hsM : scO R C = M := (sco_yes hct).trans hM
  rw [hM] at hcb h3
  have hkM : Hid ((k : Int) < cntS R C) := Lib.hid (by rw [hM]; omega)
  have hk0 : ¬ (k : Int) < 0 := by omega
  have hn13 : n ≤ 13 := by omega
  have hW13 : W ≤ 13 := by omega
  have h0M : ((0 : Nat) : Int) < cntS R C := by rw [hM]; omega
  have h16 : n * W ≤ 16 := by have := (ctdB_parts hct).2; rwa [lr, lc] at this
  have hY : Hid (∀ j : Nat, (j : Int) < M → Im W n (nthS R C j) ∧ rsL (nthS R C j) W n = R ∧ csL (nthS R C j) n W = C ∧ rkO W (nthS R C j) = j) := Lib.hid fun j hj => by
    rw [← hM] at hj
    have hal := alls_im hsv (nth_mem hj)
    have hr := nth_rnk hj
    rw [lc, lr] at hal
    obtain ⟨a, b, c⟩ := hal
    exact ⟨a, b, c, by rw [rko_im a h16, b, c]; exact hr⟩
  obtain ⟨X, hX⟩ : ∃ X, nthS R C 0 = X := ⟨_, rfl⟩
  have hMp : 0 < M := by omega
  have hMb : M ≤ 65536 := hcb.2
  replace hX := Lib.hid hX
  replace h0M := Lib.hid h0M
  replace hsv := Lib.hid hsv
  replace hct := Lib.hid hct
  replace h1 := Lib.hid h1
  replace h2 := Lib.hid h2
  replace h4 := Lib.hid h4
  replace hI := Lib.hid hI
  replace hM := Lib.hid hM
  replace hsM := Lib.hid hsM
  replace hR0 := Lib.hid hR0
  replace hC0 := Lib.hid hC0
  replace lr := Lib.hid lr
  replace lc := Lib.hid lc
  go_wp2_with fail
  refine (rk_ok h1.out (by omega) _ _ _ p.out).mono ?_
  rintro e w4 ⟨rfl, hb⟩
  have szw4 : w1.heap.size + 1 ≤ w4.heap.size := by have := hb.size; simpa using this
  replace p0 := kept hb (block_lt p0) p0
  replace p1 := kept hb (block_lt p1) p1
  replace p := Lib.hid (p.out.bel hb)
  replace bb := Lib.hid (bb.out.trans (hb.mono bb.out.size))
  clear hb
  go_wp2_with fail
  refine (rk_sok h1.out (by omega) _ _ _ p.out).mono ?_
  rintro e w5 ⟨rfl, hb⟩
  have szw5 := hb.size
  replace p0 := kept hb (block_lt p0) p0
  replace p1 := kept hb (block_lt p1) p1
  replace p := Lib.hid (p.out.bel hb)
  replace bb := Lib.hid (bb.out.trans (hb.mono bb.out.size))
  clear hb
  go_wp2_with fail
  refine (hrs.out _ _ _ p.out).mono ?_
  rintro e w6 ⟨⟨ar1, cr1, rfl, ho⟩, hb⟩
  have r1 := Lib.hid ho.row
  have szw6 := hb.size
  replace p0 := kept hb (block_lt p0) p0
  replace p1 := kept hb (block_lt p1) p1
  replace p := Lib.hid (p.out.bel hb)
  replace bb := Lib.hid (bb.out.trans (hb.mono bb.out.size))
  clear hb
  clear ho
  go_wp2_with fail
  refine (hcs.out _ _ _ p.out).mono ?_
  rintro e w7 ⟨⟨ac1_, cc1_, rfl, ho⟩, hb⟩
  have c1_ := Lib.hid ho.row
  have szw7 := hb.size
  replace p0 := kept hb (block_lt p0) p0
  replace p1 := kept hb (block_lt p1) p1
  replace p := Lib.hid (p.out.bel hb)
  replace r1 := Lib.hid (r1.out.bel hb)
  replace bb := Lib.hid (bb.out.trans (hb.mono bb.out.size))
  clear hb
  clear ho
  go_wp2_with fail
  refine (sc_ok hsM.out _ _ _ _ _ r1.out c1_.out hn13 hW13).mono ?_
  rintro e w8 ⟨rfl, hb⟩
  have szw8 := hb.size
  replace p0 := kept hb (block_lt p0) p0
  replace p1 := kept hb (block_lt p1) p1
  replace p := Lib.hid (p.out.bel hb)
  replace r1 := Lib.hid (r1.out.bel hb)
  replace c1_ := Lib.hid (c1_.out.bel hb)
  replace bb := Lib.hid (bb.out.trans (hb.mono bb.out.size))
  clear hb
  go_wp2_with fail
  refine (nt_ok rfl hct.out h0M.out hX.out lc.out lr.out _ _ _ _ _ r1.out c1_.out hn13 hW13).mono ?_
  rintro e w9 ⟨⟨ax, cx, rfl, ho⟩, hb⟩
  have x := Lib.hid ho
  have szw9 := hb.size
  replace p0 := kept hb (block_lt p0) p0
  replace p1 := kept hb (block_lt p1) p1
  replace p := Lib.hid (p.out.bel hb)
  replace r1 := Lib.hid (r1.out.bel hb)
  replace c1_ := Lib.hid (c1_.out.bel hb)
  replace bb := Lib.hid (bb.out.trans (hb.mono bb.out.size))
  clear hb
  clear ho
  have hxr := rng_own x.out
  obtain ⟨wb, hwb⟩ : ∃ wb, w9.alloc (.cells #[.int .i64 W, .slice ax n cx] 30) = wb := ⟨_, rfl⟩
  obtain ⟨bk, hbk⟩ : ∃ bk, w9.heap.size = bk := ⟨_, rfl⟩
  have hbx : Below w9.heap.size w9 wb := by rw [← hwb]; exact (Below.refl _ _).alloc (Nat.le_refl _) _
  have x0 : wb.cell? ⟨bk, 0, none⟩ = some (.int .i64 W) := by rw [← hwb, ← hbk]; simp
  have x1 : wb.cell? ⟨bk, 1, none⟩ = some (.slice ax n cx) := by rw [← hwb, ← hbk]; simp
  have xf : ∀ o, wb.frozen? ⟨bk, o, none⟩ = false := fun o => by rw [← hwb, ← hbk]; simp
  have hfr : ∀ b o, ax = some ⟨b, o, none⟩ → 0 < n → b ≠ bk := fun b o e _ => by
    have := (hxr _ e).2
    rw [hbk] at this
    simp only at this
    omega
  have xr := Lib.hid (x.out.row.bel hbx)
  have bb2 : Hid (Below w.heap.size w wb) := Lib.hid (bb.out.trans (hbx.mono bb.out.size))
  have hbkw : w.heap.size ≤ bk := by rw [← hbk]; exact bb.out.size
  replace hfr := Lib.hid hfr
  replace hwb := Lib.hid hwb
  clear hbx hxr x p r1 c1_ bb
  go_upto_region 12 with fail
  (try rw [hwb.out])
  (try rw [hbk])
  clear hwb hbk
  go_wp2_with fail
  go_loopw [10, 11] (fun tp tn wr => ∃ (j : Nat) (f : Bool) (V2 : Int) (aY : Option Addr) (nY cY : Nat) (Y : List Int), tp = .bool f ∧ tn = .int .i64 j ∧ j ≤ 13 ∧ Hid ((f = true ∧ (j : Int) < M ∧ V2 = W ∧ nY = n ∧ Y = nthS R C j) ∨ (f = false ∧ (j : Int) = M)) ∧ wr.cell? ⟨bk, 0, none⟩ = some (.int .i64 V2) ∧ wr.cell? ⟨bk, 1, none⟩ = some (.slice aY nY cY) ∧ (∀ o, wr.frozen? ⟨bk, o, none⟩ = false) ∧ Hid (∀ b o, aY = some ⟨b, o, none⟩ → 0 < nY → b ≠ bk) ∧ Hid (Row wr aY nY Y) ∧ Hid (Below w.heap.size w wr)) (fun _ tn _ => 14 - (intOf tn).toNat)
  case atStart => exact ⟨0, true, W, ax, n, cx, X, rfl, rfl, by omega, Lib.hid (.inl ⟨rfl, hMp, rfl, rfl, hX.out.symm⟩), x0, x1, xf, hfr, xr, bb2⟩
  case round =>
    clear x0 x1 xf hfr xr bb2
    obtain ⟨j, f, V2, aY, nY, cY, Y, rfl, rfl, hj13, hst, x0, x1, xf, hfr, xr, bb⟩ := hrel
    obtain ⟨wo, rfl⟩ : ∃ wo : World, wo = wr := ⟨_, rfl⟩
    rcases hst.out with ⟨rfl, hjM, rfl, rfl, rfl⟩ | ⟨rfl, hjM⟩
    case inr =>
      have hjj : ((j : Int) == M) = true := by rw [beq_iff_eq]; exact hjM
      by_cases h12 : 12 < M
      · have g1 : decide (12 < M) = true := decide_eq_true h12
        clear hjM h12 hst
        go_wp2_with fail
        go_ret
        exact ⟨rfl, bb.out⟩
      · have g1 : decide (12 < M) = false := decide_eq_false h12
        clear hjM h12 hst
        go_wp2_with fail
        go_ret
        exact ⟨rfl, bb.out⟩
    by_cases h12 : j ≤ 12
    case neg =>
      have g1 : decide (12 < M) = true := decide_eq_true (by omega)
      have g2 : decide ((j : Int) ≤ 12) = false := decide_eq_false (by omega)
      clear hst
      go_wp2_with fail
      go_ret
      exact ⟨rfl, bb.out⟩
    have g2 : decide ((j : Int) ≤ 12) = true := decide_eq_true (by omega)
    have i1 : IntKind.i64.wrap ((j : Int) + 1) = (j : Int) + 1 := IntWalk.i64_in _ ⟨by omega, by omega⟩
    obtain ⟨hIY, eR, eC, hrY⟩ := hY.out j hjM
    obtain ⟨Y, hYe⟩ : ∃ Y, nthS R C j = Y := ⟨_, rfl⟩
    rw [hYe] at hIY eR eC hrY xr
    have hbl : bk < wo.heap.size := block_lt x0
    by_cases hnx : (j : Int) + 1 < M
    · have hk1 : ((j + 1 : Nat) : Int) < cntS (rsL Y W nY) (csL Y nY W) := by rw [eR, eC, hM.out]; omega
      have hct1 : ctdB (rsL Y W nY) (csL Y nY W) = true := by rw [eR, eC]; exact hct.out
      have cn := nx_ok hIY hct1 hrY hk1 (L := nthS R C (j + 1)) (by rw [eR, eC]) aY cY wo xr.out
      have hst2 : Hid (((j + 1 : Nat) : Int) < M) := Lib.hid (by omega)
      replace cn := Lib.hid cn
      clear hk1 hct1 hIY eR eC hrY hYe hst hnx hjM
      go_wp2_with fail
      refine cn.out.mono ?_
      rintro e w5 ⟨⟨aZ, cZ, rfl, hoZ⟩, hb⟩
      have hz0 : w5.cell? ⟨bk, 0, none⟩ = some (.int .i64 W) := kept hb (block_lt x0) x0
      have hz1 : w5.cell? ⟨bk, 1, none⟩ = some (.slice aY nY cY) := kept hb (block_lt x1) x1
      have hzf : ∀ o, w5.frozen? ⟨bk, o, none⟩ = false := fun o => (hb.frozen (p := ⟨bk, o, none⟩) hbl).trans (xf o)
      have hfz : Hid (∀ b o, aZ = some ⟨b, o, none⟩ → 0 < nY → b ≠ bk) := Lib.hid fun b o e _ => by
        have := (rng_own hoZ _ e).1
        simp only at this
        omega
      have rz := Lib.hid hoZ.row
      have bb2 := Lib.hid (bb.out.trans (hb.mono bb.out.size))
      clear hb x0 x1 xf xr hfr hoZ cn bb
      have gs := set2_grown w5 bk (.int .i64 W) (.slice aZ nY cZ)
      have rz2 := Lib.hid (rz.out.apart gs (fun b o e hl => by simp; exact hfz.out b o e hl))
      have q0 := set2_c0 (u0 := .int .i64 W) (u1 := .slice aZ nY cZ) hz0
      have q1 := set2_c1 (u0 := .int .i64 W) (u1 := .slice aZ nY cZ) hz1
      have qf : ∀ o, ((w5.setCell ⟨bk, 0, none⟩ (.int .i64 W)).setCell ⟨bk, 1, none⟩ (.slice aZ nY cZ)).frozen? ⟨bk, o, none⟩ = false := fun o => by rw [World.frozen?_setCell, World.frozen?_setCell]; exact hzf o
      have bb3 := Lib.hid ((bb2.out.setCell (show w.heap.size ≤ (⟨bk, 0, none⟩ : Addr).block from hbkw) (.int .i64 W)).setCell (show w.heap.size ≤ (⟨bk, 1, none⟩ : Addr).block from hbkw) (.slice aZ nY cZ))
      clear gs rz bb2
      go_wp2_with fail
      exact ⟨⟨j + 1, true, W, aZ, nY, cZ, _, rfl, by go_num, by omega, Lib.hid (.inl ⟨rfl, hst2.out, rfl, rfl, rfl⟩), q0, q1, qf, hfz, rz2, bb3⟩, by simp [intOf]; omega⟩
    · have hno := nxo_last hIY (by rw [eR, eC]; exact hct.out) hrY (by rw [eR, eC, hM.out]; omega)
      have cn := nx_no hno (by have := hIY.l6; omega) aY cY wo xr.out
      have hst2 : Hid (((j + 1 : Nat) : Int) = M) := Lib.hid (by omega)
      replace cn := Lib.hid cn
      clear hno hIY eR eC hrY hYe hst hnx hjM
      go_wp2_with fail
      refine cn.out.mono ?_
      rintro e w5 ⟨⟨aZ, cZ, rfl, hoZ⟩, hb⟩
      have hz0 : w5.cell? ⟨bk, 0, none⟩ = some (.int .i64 W) := kept hb (block_lt x0) x0
      have hz1 : w5.cell? ⟨bk, 1, none⟩ = some (.slice aY nY cY) := kept hb (block_lt x1) x1
      have hzf : ∀ o, w5.frozen? ⟨bk, o, none⟩ = false := fun o => (hb.frozen (p := ⟨bk, o, none⟩) hbl).trans (xf o)
      have hfz : Hid (∀ b o, aZ = some ⟨b, o, none⟩ → 0 < 0 → b ≠ bk) := Lib.hid fun b o e h => absurd h (Nat.lt_irrefl 0)
      have bb2 := Lib.hid (bb.out.trans (hb.mono bb.out.size))
      clear hb x0 x1 xf xr hfr hoZ cn bb
      have rz2 : Hid (Row ((w5.setCell ⟨bk, 0, none⟩ (.int .i64 0)).setCell ⟨bk, 1, none⟩ (.slice aZ 0 cZ)) aZ 0 []) := Lib.hid ⟨rfl, .inl rfl⟩
      have q0 := set2_c0 (u0 := .int .i64 0) (u1 := .slice aZ 0 cZ) hz0
      have q1 := set2_c1 (u0 := .int .i64 0) (u1 := .slice aZ 0 cZ) hz1
      have qf : ∀ o, ((w5.setCell ⟨bk, 0, none⟩ (.int .i64 0)).setCell ⟨bk, 1, none⟩ (.slice aZ 0 cZ)).frozen? ⟨bk, o, none⟩ = false := fun o => by rw [World.frozen?_setCell, World.frozen?_setCell]; exact hzf o
      have bb3 := Lib.hid ((bb2.out.setCell (show w.heap.size ≤ (⟨bk, 0, none⟩ : Addr).block from hbkw) (.int .i64 0)).setCell (show w.heap.size ≤ (⟨bk, 1, none⟩ : Addr).block from hbkw) (.slice aZ 0 cZ))
      clear bb2
      go_wp2_with fail
      exact ⟨⟨j + 1, false, 0, aZ, 0, cZ, [], rfl, by go_num, by omega, Lib.hid (.inr ⟨rfl, hst2.out⟩), q0, q1, qf, hfz, rz2, bb3⟩, by simp [intOf]; omega⟩

set_option maxRecDepth 100000 in
theorem lifted (os : Os) (started : os.Started) (H : Type) (enc : TypeId × Value → H) :
    ReturnsInHanded {} Try.checked os 10 .any (Rows.fnNextAllSpec.pre6 enc Try.prog Try.f10 Rows.fnNextAllRow.domain false) (Rows.fnNextAllSpec.post enc Try.prog Try.f10 false true false false) := by
  refine returnsInHanded_of_change (C := Try.checked) own started (by kernel_rfl) Try.func10
    (ChangeSpec.witness6 (enc := enc) (C := Try.checked) false ⟨#[], #[.slice none 0 0], []⟩ 8 (by kernel_rfl) (by kernel_rfl) (by kernel_rfl) (by kernel_rfl)) ?_
  intro W base args ds gs before hval0 hW hcnd _
  have hval : ∀ (j : Nat) t v, Try.f10.params[j]? = some t → args[j]? = some v → Value.okWide Try.prog W .any base t v := hval0
  have hW' := hW
  obtain ⟨p, q, hA0, hV, rfl, hfz, hnd⟩ := hW
  have hA : DataW.TrodAll enc Try.prog W 0 (fun _ => true) true Try.f10.params.toList args.toList ds p := hA0
  rw [Try.params10] at hA hval
  obtain ⟨v0, vs0, d0, ds0, p0, q0, hargs, rfl, rfl, h0, r0⟩ := trodAll_cons hA
  obtain ⟨rfl, rfl, rfl⟩ := trodAll_nil r0
  obtain rfl : args = #[v0] := by cases args; simp_all
  obtain ⟨rfl, rfl⟩ := trodVars_none hV
  have k0 := h0
  have lt0 : ∀ x ∈ p0, x.block < W.heap.size := by obtain ⟨m, hm⟩ := k0; exact DataW.trod_lt m _ _ _ hm
  obtain ⟨a0, len0, cap0, z0, rfl, w0, l0, m0⟩ := open_code (hval 0 22 v0 rfl rfl) h0
  clear hA0 hval0
  refine (walk a0 len0 cap0 z0 W w0 l0 m0).mono fun e W' ⟨he, bel⟩ => ?_
  subst he
  exact ⟨_, rfl, _, _, _, [], _, [], hW', trodAll_mk1 (shut_bool Try.underlying4 _), (trodAll_cons_mk (Below.trod laidOut (by kernel_rfl) (of_decide_eq_true (by kernel_rfl)) k0 bel lt0) trodAll_mk0), rfl, bel.frame _, fun h => by cases h⟩

theorem closed : joinedFacts Try.prog 10 Try.f10 Rows.fnNextAllSpec Rows.fnNextAllRow = true := by
  simp only [joinedFacts, Bool.and_eq_true]
  repeat' apply And.intro
  all_goals first | with_reducible exact mayEnterOk | (with_reducible rw [liftsFinalOk]; kernel_rfl) | (with_reducible rw [makeOk]; kernel_rfl) | kernel_rfl

theorem over : Rows.fnNextAllRow.holds Try.pinned (OpenSpec.ofChange Rows.fnNextAllSpec) :=
  OpenClaim.holds_of_wide 10 Try.f10 rfl rfl rfl rfl rfl rfl rfl ⟨rfl, rfl, rfl, rfl, rfl⟩ rfl rfl rfl rfl rfl (by kernel_rfl) Try.func10 closed
    (of_decide_eq_true (by kernel_rfl)) (by unfold Func.isWrapper; first | (rw [if_pos (by decide +kernel)]; kernel_rfl) | (rw [if_neg (by decide +kernel)]; exact ⟨rfl, rfl⟩))
    (fun os started H enc _ => lifted os started H enc)

theorem proved : Rows.FnNextAllSaid := over
#print axioms proved
end Go.Proofs.Ytnfkafaolelkbaa.LFNextAll

