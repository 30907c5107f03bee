/-
  For every slice of bytes the law FnCountRow answers true: an empty row, or a full one, changes nothing, while there is room for it; nothing that was there is written; no condition.
-/
import Derived.Test.YtmfncheimmcobaaO
import Derived.Test.YtmfncheimmcobaaK
import Derived.Deep.RegionLaw
import Derived.Test.YtmfncheimmcobaaYa
import Derived.Test.YtmfncheimmcobaaJd
import Derived.Test.YtmfncheimmcobaaJn
import Derived.Test.YtmfncheimmcobaaMd
namespace Go.Proofs.Ytmfncheimmcobaa.LFCountRow
open Go.ChangeShapes Go.WideShapes Go.ChangeAt Go.RowKit Go.Joins

theorem sums_zero_row {xs ys : List Int} (h : sumsB xs ys = true) (h6 : xs.length < 6) : sumsB (xs ++ [0]) ys = true := by
  have hp := sumsB_parts h
  unfold sumsB
  rw [Bool.and_eq_true, Bool.and_eq_true, Bool.and_eq_true]
  refine ⟨inB_yes (by simp; omega) (by simp; omega), inB_yes (by omega) (by omega), allIn_iff.2 fun i hi => ?_, allIn_iff.2 fun i hi => ?_⟩
  · rw [List.length_append, List.length_singleton] at hi
    by_cases e : i < xs.length
    · have := hp.2.2.1 i e
      have e9 : (xs ++ [0]).getD i 0 = xs.getD i 0 := by simp [List.getD_eq_getElem?_getD, List.getElem?_append_left e]
      rw [e9]; exact this
    · obtain rfl : i = xs.length := by omega
      simp
  · have := hp.2.2.2 i hi
    rw [List.length_append, List.length_singleton]; omega
theorem sums_full_row {xs ys : List Int} (h : sumsB xs ys = true) (h6 : xs.length < 6) : sumsB (xs ++ [(ys.length : Int)]) (ys.map (· + 1)) = true := by
  have hp := sumsB_parts h
  unfold sumsB
  rw [Bool.and_eq_true, Bool.and_eq_true, Bool.and_eq_true]
  refine ⟨inB_yes (by simp; omega) (by simp; omega), inB_yes (by simp; omega) (by simp; omega), allIn_iff.2 fun i hi => ?_, allIn_iff.2 fun i hi => ?_⟩
  · rw [List.length_append, List.length_singleton] at hi
    rw [List.length_map]
    by_cases e : i < xs.length
    · have := hp.2.2.1 i e
      have e9 : (xs ++ [(ys.length : Int)]).getD i 0 = xs.getD i 0 := by simp [List.getD_eq_getElem?_getD, List.getElem?_append_left e]
      rw [e9]; exact this
    · obtain rfl : i = xs.length := by omega
      simp
  · rw [List.length_map] at hi
    have := hp.2.2.2 i hi
    rw [List.length_append, List.length_singleton, show (ys.map (· + 1)).getD i 0 = ys.getD i 0 + 1 by simp [List.getD_eq_getElem?_getD, List.getElem?_map, List.getElem?_eq_getElem hi]]
    omega

set_option maxHeartbeats 2000000 in
set_option maxRecDepth 100000 in
theorem walk (a : Option Addr) (len cap : Nat) (zs : List Int) (w : World) (h : Bys w a len zs) (hl : len ≤ cap) (hm : cap ≤ 9223372036854775807) :
    Calls Try.prog 6 #[.slice a len cap] w fun e w' => e = .returned (.bool true) ∧ Below w.heap.size w w' := by
  by_cases hbig : 1048576 < len
  · clear h
    go_enter Try.func6, Try.ntmps6
    go_wp2_with fail
    go_ret
    exact ⟨rfl, Below.refl _ _⟩
  go_enter Try.func6, Try.ntmps6
  go_wp2_with fail
  refine (draw_DrawSumsCount a len cap zs _ h hl hm).mono ?_
  rintro e w1 ⟨aR, n, cR, xs, aC, m, cC, ys, rfl, hR, hC, hnm, hcap, hb1⟩
  clear h hl hm
  have bb := Lib.hid hb1
  have p := Lib.hid hR.row
  have q := Lib.hid hC.row
  have lx := hR.len
  have ly := hC.len
  have hn13 : n ≤ 13 := by omega
  have hm13 : m ≤ 13 := by omega
  clear hR hC hb1
  obtain ⟨N, hN⟩ : ∃ N, scO xs ys = N := ⟨_, rfl⟩
  go_wp2_with fail
  refine (sc_ok hN _ _ _ _ _ p.out q.out hn13 hm13).mono ?_
  rintro e w2 ⟨rfl, hb⟩
  have szw2 := hb.size
  replace p := Lib.hid (p.out.bel hb)
  replace q := Lib.hid (q.out.bel hb)
  replace bb := Lib.hid (bb.out.trans (hb.mono bb.out.size))
  clear hb
  go_wp2_with fail
  refine (sc_sok hN _ _ _ _ _ p.out q.out hn13 hm13 hcap.1).mono ?_
  rintro e w3 ⟨rfl, hb⟩
  have szw3 := hb.size
  replace p := Lib.hid (p.out.bel hb)
  replace q := Lib.hid (q.out.bel hb)
  replace bb := Lib.hid (bb.out.trans (hb.mono bb.out.size))
  clear hb
  by_cases hct : ctdB xs ys = true
  case neg =>
    obtain rfl : N = -1 := by rw [← hN]; exact if_neg hct
    replace hct := Lib.hid hct
    go_wp2_with fail
    go_ret
    exact ⟨rfl, bb.out⟩
  have hv := (ctdB_parts hct).1
  have h16 := (ctdB_parts hct).2
  rw [lx, ly] at h16
  have hp := sumsB_parts hv
  rw [lx, ly] at hp
  have hn1 := hp.1.1
  have hn6 := hp.1.2
  have hm1 := hp.2.1.1
  have hm6 := hp.2.1.2
  have bx := Lib.hid hp.2.2.1
  have by' := Lib.hid hp.2.2.2
  have hex := Lib.hid (sums_el hv).1
  have hey := Lib.hid (sums_el hv).2
  clear hp
  have hNc : cntS xs ys = N := (sco_yes hct).symm.trans hN
  have hNb := sco_bd hct
  rw [hNc] at hNb
  have hN0 : ¬ N < 0 := by omega
  obtain ⟨P, hP⟩ : ∃ P, (n + 1) * m = P := ⟨_, rfl⟩
  have g0 : decide (0 ≤ N) = true := decide_eq_true hNb.1
  replace hP := Lib.hid hP
  obtain ⟨B, hB⟩ : ∃ B : Bool, (decide (16 < P) || decide (n = 6)) = B := ⟨_, rfl⟩
  replace hB := Lib.hid hB
  replace hv := Lib.hid hv
  replace hN := Lib.hid hN
  replace hNc := Lib.hid hNc
  replace hct := Lib.hid hct
  replace h16 := Lib.hid h16
  go_upto_region 8 with fail
  go_cut [45] (fun s45 wx => s45 = .bool B ∧ Hid (w3 = wx))
  case first =>
    have hside : n = 1 ∨ n = 2 ∨ n = 3 ∨ n = 4 ∨ n = 5 ∨ n = 6 := by omega
    have hoth : 1 ≤ m ∧ m ≤ 6 := by omega
    clear hN0 hNb g0
    rcases hside with rfl | rfl | rfl | rfl | rfl | rfl
    · by_cases hq : 16 < P
      · have hq2 : (16 : Int) < 2 * (m : Int) := by have := hP.out; omega
        have hB1 : B = true := by rw [← hB.out, decide_eq_true hq]; rfl
        replace hq := Lib.hid hq
        replace hB1 := Lib.hid hB1
        go_wp2_with fail
        go_meet
        exact ⟨by rw [hB1.out], Lib.hid rfl⟩
      · have hq2 : ¬ (16 : Int) < 2 * (m : Int) := by have := hP.out; omega
        have hB1 : B = false := by rw [← hB.out, decide_eq_false hq]; rfl
        replace hq := Lib.hid hq
        replace hB1 := Lib.hid hB1
        go_wp2_with fail
        go_meet
        exact ⟨by rw [hB1.out], Lib.hid rfl⟩
    · by_cases hq : 16 < P
      · have hq2 : (16 : Int) < 3 * (m : Int) := by have := hP.out; omega
        have hB1 : B = true := by rw [← hB.out, decide_eq_true hq]; rfl
        replace hq := Lib.hid hq
        replace hB1 := Lib.hid hB1
        go_wp2_with fail
        go_meet
        exact ⟨by rw [hB1.out], Lib.hid rfl⟩
      · have hq2 : ¬ (16 : Int) < 3 * (m : Int) := by have := hP.out; omega
        have hB1 : B = false := by rw [← hB.out, decide_eq_false hq]; rfl
        replace hq := Lib.hid hq
        replace hB1 := Lib.hid hB1
        go_wp2_with fail
        go_meet
        exact ⟨by rw [hB1.out], Lib.hid rfl⟩
    · by_cases hq : 16 < P
      · have hq2 : (16 : Int) < 4 * (m : Int) := by have := hP.out; omega
        have hB1 : B = true := by rw [← hB.out, decide_eq_true hq]; rfl
        replace hq := Lib.hid hq
        replace hB1 := Lib.hid hB1
        go_wp2_with fail
        go_meet
        exact ⟨by rw [hB1.out], Lib.hid rfl⟩
      · have hq2 : ¬ (16 : Int) < 4 * (m : Int) := by have := hP.out; omega
        have hB1 : B = false := by rw [← hB.out, decide_eq_false hq]; rfl
        replace hq := Lib.hid hq
        replace hB1 := Lib.hid hB1
        go_wp2_with fail
        go_meet
        exact ⟨by rw [hB1.out], Lib.hid rfl⟩
    · by_cases hq : 16 < P
      · have hq2 : (16 : Int) < 5 * (m : Int) := by have := hP.out; omega
        have hB1 : B = true := by rw [← hB.out, decide_eq_true hq]; rfl
        replace hq := Lib.hid hq
        replace hB1 := Lib.hid hB1
        go_wp2_with fail
        go_meet
        exact ⟨by rw [hB1.out], Lib.hid rfl⟩
      · have hq2 : ¬ (16 : Int) < 5 * (m : Int) := by have := hP.out; omega
        have hB1 : B = false := by rw [← hB.out, decide_eq_false hq]; rfl
        replace hq := Lib.hid hq
        replace hB1 := Lib.hid hB1
        go_wp2_with fail
        go_meet
        exact ⟨by rw [hB1.out], Lib.hid rfl⟩
    · by_cases hq : 16 < P
      · have hq2 : (16 : Int) < 6 * (m : Int) := by have := hP.out; omega
        have hB1 : B = true := by rw [← hB.out, decide_eq_true hq]; rfl
        replace hq := Lib.hid hq
        replace hB1 := Lib.hid hB1
        go_wp2_with fail
        go_meet
        exact ⟨by rw [hB1.out], Lib.hid rfl⟩
      · have hq2 : ¬ (16 : Int) < 6 * (m : Int) := by have := hP.out; omega
        have hB1 : B = false := by rw [← hB.out, decide_eq_false hq]; rfl
        replace hq := Lib.hid hq
        replace hB1 := Lib.hid hB1
        go_wp2_with fail
        go_meet
        exact ⟨by rw [hB1.out], Lib.hid rfl⟩
    · by_cases hq : 16 < P
      · have hq2 : (16 : Int) < 7 * (m : Int) := by have := hP.out; omega
        have hB1 : B = true := by rw [← hB.out, decide_eq_true hq]; rfl
        replace hq := Lib.hid hq
        replace hB1 := Lib.hid hB1
        go_wp2_with fail
        go_meet
        exact ⟨by rw [hB1.out], Lib.hid rfl⟩
      · have hq2 : ¬ (16 : Int) < 7 * (m : Int) := by have := hP.out; omega
        have hB1 : B = true := by rw [← hB.out, decide_eq_false hq]; rfl
        replace hq := Lib.hid hq
        replace hB1 := Lib.hid hB1
        go_wp2_with fail
        go_meet
        exact ⟨by rw [hB1.out], Lib.hid rfl⟩
  case rest =>
    obtain ⟨rfl, hwx⟩ := hcut
    obtain rfl := hwx.out
    clear hwx
    cases B with
    | true =>
      go_wp2_with fail
      go_ret
      exact ⟨rfl, bb.out⟩
    | false =>
      have hr1' : ¬ 16 < P ∧ ¬ n = 6 := by
        have h := hB.out
        rw [Bool.or_eq_false_iff] at h
        exact ⟨of_decide_eq_false h.1, of_decide_eq_false h.2⟩
      have hr1 := Nat.le_of_not_lt hr1'.1
      have hr2 := Nat.lt_of_le_of_ne hn6 hr1'.2
      clear hr1'
      replace hv := hv.out
      replace hN := hN.out
      replace hNc := hNc.out
      replace hct := hct.out
      go_upto_region 10 with fail
      have hs0 := sums_zero_row hv (by omega)
      have hs1 := sums_full_row hv (by omega)
      have hc0 : Hid (scO (xs ++ [0]) ys = N) := Lib.hid (by
        have h2 := cnt_row0 hv (k := xs.length) (Nat.le_refl _)
        rw [hNc, ins_end] at h2
        rw [sco_yes (ctdB_of hs0 (by rw [List.length_append, List.length_singleton, lx, ly, hP.out]; exact hr1)), h2])
      have hc1 : Hid (scO (xs ++ [(m : Int)]) (ys.map (· + 1)) = N) := Lib.hid (by
        have h2 := cnt_row1 hv (k := xs.length) (Nat.le_refl _)
        rw [hNc, ins_end, ly] at h2
        rw [ly] at hs1
        rw [sco_yes (ctdB_of hs1 (by rw [List.length_append, List.length_singleton, List.length_map, lx, ly, hP.out]; exact hr1)), h2])
      obtain ⟨M, hM⟩ : ∃ M, ys.map (· + 1) = M := ⟨_, rfl⟩
      have hMl : M.length = m := by rw [← hM, List.length_map]; exact ly
      have hMg : Hid (∀ j, j < m → M.getD j 0 = ys.getD j 0 + 1) := fun j hj => by rw [← hM]; simp [List.getD_eq_getElem?_getD, List.getElem?_map, List.getElem?_eq_getElem (show j < ys.length by omega)]
      rw [hM] at hc1
      replace hM := Lib.hid hM
      clear hs0 hs1
      replace hv := Lib.hid hv
      replace hN := Lib.hid hN
      replace hNc := Lib.hid hNc
      replace hct := Lib.hid hct
      have ho0 : Hid (OwnI (w3.alloc (.cells #[] 3)) w3.heap.size (some ⟨w3.heap.size, 0, none⟩) 0 0 (M.take 0)) := own_empty w3 w3.heap.size w3.heap.size rfl (Nat.le_refl _)
      have hb0 : Hid (Below w3.heap.size w3 (w3.alloc (.cells #[] 3))) := (Below.refl _ _).alloc (Nat.le_refl _) _
      go_wp2_with fail
      go_loopw [7, 8] (fun o v wr => ∃ j g c : Nat, j ≤ m ∧ v = .int .i64 j ∧ o = .slice (some ⟨g, 0, none⟩) j c ∧ Hid (OwnI wr w3.heap.size (some ⟨g, 0, none⟩) j c (M.take j)) ∧ Hid (Below w3.heap.size w3 wr)) (fun _ v _ => m - (intOf v).toNat)
      case atStart => exact ⟨0, _, 0, Nat.zero_le _, rfl, rfl, ho0, hb0⟩
      case round =>
        clear ho0 hb0
        obtain ⟨j, g, c, hj, rfl, rfl, hO, hB⟩ := hrel
        obtain ⟨wo, rfl⟩ : ∃ wo : World, wo = wr := ⟨_, rfl⟩
        have hBs := hB.out.size
        have hgg : w3.heap.size ≤ g ∧ g < wo.heap.size := rng_own hO.out _ rfl
        by_cases hlt : j < m
        · obtain ⟨qb, qo, rfl, hc⟩ := row_at (q.out.bel hB.out) hlt
          have hy := by'.out j hlt
          have hMj := hMg.out j hlt
          have htk : M.take (j + 1) = M.take j ++ [M.getD j 0] := by rw [List.take_add_one]; simp [List.getElem?_eq_getElem (show j < M.length by omega), List.getD_eq_getElem?_getD]
          rw [hMj] at htk
          obtain ⟨v, hvv⟩ : ∃ v, ys.getD j 0 = v := ⟨_, rfl⟩
          rw [hvv] at hc hy htk
          have iv : IntKind.i64.wrap (v + 1) = v + 1 := IntWalk.i64_in _ ⟨by omega, by omega⟩
          obtain ⟨Mj, hMj2⟩ : ∃ Mj, M.take j = Mj := ⟨_, rfl⟩
          rw [hMj2] at hO htk
          replace htk := Lib.hid htk
          replace hvv := Lib.hid hvv
          replace hMj2 := Lib.hid hMj2
          clear hMj
          go_wp2_with (at_builtin; refine wpList_append_int rfl _ _ rfl w3.heap.size g j c Mj rfl (World.ownsRow.alloc hO.out _) wo.heap.size rfl (v + 1) (by simp) (by omega) (by simp; omega) ?_)
          intro g' c' wz3 hown hgr hlies
          have hown : OwnI wz3 w3.heap.size (some ⟨g', 0, none⟩) (j + 1) c' (M.take (j + 1)) := by rw [htk.out]; unfold OwnI; simpa using hown
          have hB3 := Lib.hid ((hB.out.alloc hBs (.cells #[.int .i64 (v + 1)] 3)).grown hgr (by simp; omega) (fun q hq => by cases hq; exact hgg.1))
          replace hown := Lib.hid hown
          clear hgr hlies hO hB hgg
          go_wp2_with fail
          exact ⟨⟨j + 1, g', c', by omega, by go_num, rfl, hown, hB3⟩, by simp [intOf]; omega⟩
        obtain rfl : j = m := by omega
        rw [List.take_of_length_le (by omega)] at hO
        have hb := hB.out
        have v_ := Lib.hid hO.out.row
        clear hO hgg
        have szwo := hb.size
        replace p := Lib.hid (p.out.bel hb)
        replace q := Lib.hid (q.out.bel hb)
        replace bb := Lib.hid (bb.out.trans (hb.mono bb.out.size))
        clear hb
        clear hB
        obtain ⟨x_b, x_o, rfl, x_h⟩ := row_at p.out (show 0 < n by omega)
        have x_n := Lib.hid (row_news p.out (by omega))
        clear x_h
        have x_l := p.out.1
        have lt_x_p := row_lt p.out
        have lt_x_q := row_lt q.out
        have lt_x_v_ := row_lt v_.out
        have x_s := bb.out.size
        obtain ⟨x_i, x_i1, x_i2, x_i3, x_i4⟩ := info_parts infoInt
        go_wp2_with (at_builtin; refine wpList_append_own _ rfl _ _ 23 rfl wo.heap.size 3 x_i (.int .i64 0) 1 8 Try.underlying23 x_i1 x_i2 x_i3 x_i4 rfl (by decide) _ 0 [] rfl (World.ownsRow_lit wo #[] 0 (Nat.le_refl _) (by decide) rfl) ⟨x_b, x_o, none⟩ n cR ((xs).map (Value.int .i64)) rfl (by simp only [List.length_map]; omega) (fun j u hj => World.cell?_alloc_some (x_n.out j u hj)) (ints_oneCell _ _) (by unfold maxLen; omega) (by omega) (by simp) ?_)
        intro v' w4 hown hgr hnil
        obtain ⟨ax, cx, rfl, ho⟩ := own_of (xs := xs) (n := n) (by simpa using hown)
        have hb : Below wo.heap.size wo w4 := ((Below.refl _ _).alloc (Nat.le_refl _) _).grown hgr (by simp) (fun k hk => by simp [Value.ownBlock] at hk; omega)
        clear hown hgr hnil x_n x_i1 x_i2 x_i3 x_i4
        obtain ⟨gx, rfl⟩ : ∃ g, ax = some ⟨g, 0, none⟩ := by
          rcases ho.cases with ⟨_, h, _⟩ | ⟨g, h, _⟩
          · omega
          · exact ⟨g, h⟩
        have x := Lib.hid ho
        have rg_x := rng_own ho
        clear ho
        have szw4 := hb.size
        replace p := Lib.hid (p.out.bel hb)
        replace q := Lib.hid (q.out.bel hb)
        replace v_ := Lib.hid (v_.out.bel hb)
        replace bb := Lib.hid (bb.out.trans (hb.mono bb.out.size))
        clear hb
        have zz_z : wo.heap.size ≤ w4.heap.size := by omega
        go_wp2_with (at_builtin; refine wpList_append_int rfl _ _ rfl wo.heap.size gx n cx (xs) rfl (World.ownsRow.alloc x.out _) w4.heap.size rfl ((j : Int)) (by simp) (by omega) (by simp; omega) ?_)
        intro gz cz w5 hown hgr hlies
        have ho : OwnI w5 wo.heap.size (some ⟨gz, 0, none⟩) (n + 1) cz (xs ++ [(j : Int)]) := by unfold OwnI; simpa using hown
        have hg5 : (w4.alloc (.cells #[.int .i64 ((j : Int))] 3)).grownBy w5 (rowOf (some ⟨gx, 0, none⟩)) := hgr
        have hb : Below wo.heap.size w4 w5 := ((Below.refl _ _).alloc zz_z _).grown hgr (by simp; omega) (fun k hk => by cases hk; exact (rg_x _ rfl).1)
        replace p := Lib.hid ((p.out.alloc _).apart hg5 (fun b o e hn => ne_rowOf rg_x (.inl (lt_x_p b o e hn))))
        replace q := Lib.hid ((q.out.alloc _).apart hg5 (fun b o e hn => ne_rowOf rg_x (.inl (lt_x_q b o e hn))))
        replace v_ := Lib.hid ((v_.out.alloc _).apart hg5 (fun b o e hn => ne_rowOf rg_x (.inl (lt_x_v_ b o e hn))))
        have bz_z : w.heap.size ≤ wo.heap.size := by omega
        replace bb := Lib.hid (bb.out.trans (hb.mono bz_z))
        have szw5 := hb.size
        have z := Lib.hid ho.row
        clear hown hgr hg5 hb ho hlies x rg_x zz_z bz_z
        have u_h := True.intro
        have u_n := Lib.hid (row_news p.out (by omega))
        clear u_h
        have u_l := p.out.1
        have lt_u_p := row_lt p.out
        have lt_u_q := row_lt q.out
        have lt_u_v_ := row_lt v_.out
        have lt_u_z := row_lt z.out
        have u_s := bb.out.size
        obtain ⟨u_i, u_i1, u_i2, u_i3, u_i4⟩ := info_parts infoInt
        go_wp2_with (at_builtin; refine wpList_append_own _ rfl _ _ 23 rfl w5.heap.size 3 u_i (.int .i64 0) 1 8 Try.underlying23 u_i1 u_i2 u_i3 u_i4 rfl (by decide) _ 0 [] rfl (World.ownsRow_lit w5 #[] 0 (Nat.le_refl _) (by decide) rfl) ⟨x_b, x_o, none⟩ n cR ((xs).map (Value.int .i64)) rfl (by simp only [List.length_map]; omega) (fun j u hj => World.cell?_alloc_some (u_n.out j u hj)) (ints_oneCell _ _) (by unfold maxLen; omega) (by omega) (by simp) ?_)
        intro v' w6 hown hgr hnil
        obtain ⟨au, cu, rfl, ho⟩ := own_of (xs := xs) (n := n) (by simpa using hown)
        have hb : Below w5.heap.size w5 w6 := ((Below.refl _ _).alloc (Nat.le_refl _) _).grown hgr (by simp) (fun k hk => by simp [Value.ownBlock] at hk; omega)
        clear hown hgr hnil u_n u_i1 u_i2 u_i3 u_i4
        obtain ⟨gu, rfl⟩ : ∃ g, au = some ⟨g, 0, none⟩ := by
          rcases ho.cases with ⟨_, h, _⟩ | ⟨g, h, _⟩
          · omega
          · exact ⟨g, h⟩
        have u := Lib.hid ho
        have rg_u := rng_own ho
        clear ho
        have szw6 := hb.size
        replace p := Lib.hid (p.out.bel hb)
        replace q := Lib.hid (q.out.bel hb)
        replace v_ := Lib.hid (v_.out.bel hb)
        replace z := Lib.hid (z.out.bel hb)
        replace bb := Lib.hid (bb.out.trans (hb.mono bb.out.size))
        clear hb
        have zz_s : w5.heap.size ≤ w6.heap.size := by omega
        go_wp2_with (at_builtin; refine wpList_append_int rfl _ _ rfl w5.heap.size gu n cu (xs) rfl (World.ownsRow.alloc u.out _) w6.heap.size rfl (0) (by simp) (by omega) (by simp; omega) ?_)
        intro gs cs w7 hown hgr hlies
        have ho : OwnI w7 w5.heap.size (some ⟨gs, 0, none⟩) (n + 1) cs (xs ++ [0]) := by unfold OwnI; simpa using hown
        have hg5 : (w6.alloc (.cells #[.int .i64 (0)] 3)).grownBy w7 (rowOf (some ⟨gu, 0, none⟩)) := hgr
        have hb : Below w5.heap.size w6 w7 := ((Below.refl _ _).alloc zz_s _).grown hgr (by simp; omega) (fun k hk => by cases hk; exact (rg_u _ rfl).1)
        replace p := Lib.hid ((p.out.alloc _).apart hg5 (fun b o e hn => ne_rowOf rg_u (.inl (lt_u_p b o e hn))))
        replace q := Lib.hid ((q.out.alloc _).apart hg5 (fun b o e hn => ne_rowOf rg_u (.inl (lt_u_q b o e hn))))
        replace v_ := Lib.hid ((v_.out.alloc _).apart hg5 (fun b o e hn => ne_rowOf rg_u (.inl (lt_u_v_ b o e hn))))
        replace z := Lib.hid ((z.out.alloc _).apart hg5 (fun b o e hn => ne_rowOf rg_u (.inl (lt_u_z b o e hn))))
        have bz_s : w.heap.size ≤ w5.heap.size := by omega
        replace bb := Lib.hid (bb.out.trans (hb.mono bz_s))
        have szw7 := hb.size
        have s := Lib.hid ho.row
        clear hown hgr hg5 hb ho hlies u rg_u zz_s bz_s
        go_wp2_with fail
        refine (sc_ok hc0.out _ _ _ _ _ s.out q.out (by omega) (by omega)).mono ?_
        rintro e w8 ⟨rfl, hb⟩
        have szw8 := hb.size
        replace p := Lib.hid (p.out.bel hb)
        replace q := Lib.hid (q.out.bel hb)
        replace v_ := Lib.hid (v_.out.bel hb)
        replace z := Lib.hid (z.out.bel hb)
        replace s := Lib.hid (s.out.bel hb)
        replace bb := Lib.hid (bb.out.trans (hb.mono bb.out.size))
        clear hb
        go_wp2_with fail
        refine (sc_ok hc1.out _ _ _ _ _ z.out v_.out (by omega) (by omega)).mono ?_
        rintro e w9 ⟨rfl, hb⟩
        have szw9 := hb.size
        replace p := Lib.hid (p.out.bel hb)
        replace q := Lib.hid (q.out.bel hb)
        replace v_ := Lib.hid (v_.out.bel hb)
        replace z := Lib.hid (z.out.bel hb)
        replace s := Lib.hid (s.out.bel hb)
        replace bb := Lib.hid (bb.out.trans (hb.mono bb.out.size))
        clear hb
        go_wp2_with fail
        go_ret
        exact ⟨rfl, bb.out⟩

set_option maxRecDepth 100000 in
theorem lifted (os : Os) (started : os.Started) (H : Type) (enc : TypeId × Value → H) :
    ReturnsInHanded {} Try.checked os 6 .any (Rows.fnCountRowSpec.pre6 enc Try.prog Try.f6 Rows.fnCountRowRow.domain false) (Rows.fnCountRowSpec.post enc Try.prog Try.f6 false true false false) := by
  refine returnsInHanded_of_change (C := Try.checked) own started (by kernel_rfl) Try.func6
    (ChangeSpec.witness6 (enc := enc) (C := Try.checked) false ⟨#[], #[.slice none 0 0], []⟩ 8 (by kernel_rfl) (by kernel_rfl) (by kernel_rfl) (by kernel_rfl)) ?_
  intro W base args ds gs before hval0 hW hcnd _
  have hval : ∀ (j : Nat) t v, Try.f6.params[j]? = some t → args[j]? = some v → Value.okWide Try.prog W .any base t v := hval0
  have hW' := hW
  obtain ⟨p, q, hA0, hV, rfl, hfz, hnd⟩ := hW
  have hA : DataW.TrodAll enc Try.prog W 0 (fun _ => true) true Try.f6.params.toList args.toList ds p := hA0
  rw [Try.params6] at hA hval
  obtain ⟨v0, vs0, d0, ds0, p0, q0, hargs, rfl, rfl, h0, r0⟩ := trodAll_cons hA
  obtain ⟨rfl, rfl, rfl⟩ := trodAll_nil r0
  obtain rfl : args = #[v0] := by cases args; simp_all
  obtain ⟨rfl, rfl⟩ := trodVars_none hV
  have k0 := h0
  have lt0 : ∀ x ∈ p0, x.block < W.heap.size := by obtain ⟨m, hm⟩ := k0; exact DataW.trod_lt m _ _ _ hm
  obtain ⟨a0, len0, cap0, z0, rfl, w0, l0, m0⟩ := open_code (hval 0 22 v0 rfl rfl) h0
  clear hA0 hval0
  refine (walk a0 len0 cap0 z0 W w0 l0 m0).mono fun e W' ⟨he, bel⟩ => ?_
  subst he
  exact ⟨_, rfl, _, _, _, [], _, [], hW', trodAll_mk1 (shut_bool Try.underlying4 _), (trodAll_cons_mk (Below.trod laidOut (by kernel_rfl) (of_decide_eq_true (by kernel_rfl)) k0 bel lt0) trodAll_mk0), rfl, bel.frame _, fun h => by cases h⟩

theorem closed : joinedFacts Try.prog 6 Try.f6 Rows.fnCountRowSpec Rows.fnCountRowRow = true := by
  simp only [joinedFacts, Bool.and_eq_true]
  repeat' apply And.intro
  all_goals first | with_reducible exact mayEnterOk | (with_reducible rw [liftsFinalOk]; kernel_rfl) | (with_reducible rw [makeOk]; kernel_rfl) | kernel_rfl

theorem over : Rows.fnCountRowRow.holds Try.pinned (OpenSpec.ofChange Rows.fnCountRowSpec) :=
  OpenClaim.holds_of_wide 6 Try.f6 rfl rfl rfl rfl rfl rfl rfl ⟨rfl, rfl, rfl, rfl, rfl⟩ rfl rfl rfl rfl rfl (by kernel_rfl) Try.func6 closed
    (of_decide_eq_true (by kernel_rfl)) (by unfold Func.isWrapper; first | (rw [if_pos (by decide +kernel)]; kernel_rfl) | (rw [if_neg (by decide +kernel)]; exact ⟨rfl, rfl⟩))
    (fun os started H enc _ => lifted os started H enc)

theorem proved : Rows.FnCountRowSaid := over
#print axioms proved
end Go.Proofs.Ytmfncheimmcobaa.LFCountRow

