/-
  The contracts of the model's ImageNth and ImageNext.
-/
import Derived.Test.YtnfkafaolelkbaaBi
import Derived.Test.YtnfkafaolelkbaaBg
namespace Go.Proofs.Ytnfkafaolelkbaa
set_option maxRecDepth 100000
open Go.RowKit

theorem mkg (w2 : World) (m : Nat) : ∃ U0, (w2.alloc (.cells #[] 3)).alloc (.cells #[.int .i64 m, .slice (some ⟨w2.heap.size, 0, none⟩) 0 0] 30) = U0 ∧ Below w2.heap.size w2 U0 ∧ U0.cell? ⟨w2.heap.size + 1, 0, none⟩ = some (.int .i64 m) ∧ U0.cell? ⟨w2.heap.size + 1, 1, none⟩ = some (.slice (some ⟨w2.heap.size, 0, none⟩) 0 0) ∧
    (∀ o, U0.frozen? ⟨w2.heap.size + 1, o, none⟩ = false) ∧ OwnI U0 w2.heap.size (some ⟨w2.heap.size, 0, none⟩) 0 0 [] :=
  ⟨_, rfl, ((Below.refl _ _).alloc (Nat.le_refl _) _).alloc (by simp) _, by go_simp, by go_simp, fun o => by go_simp, World.ownsRow.alloc (own_empty w2 w2.heap.size w2.heap.size rfl (Nat.le_refl _)) _⟩
set_option maxHeartbeats 4000000 in
theorem nth_spec (a : Option Addr) (n cap : Nat) (b : Option Addr) (m cb : Nat) (R C : List Int) (N : Int) (w : World) (h : Row w a n R) (h' : Row w b m C) (hn : n ≤ 1048576) (hm : m ≤ 1048576) (hcap : n ≤ cap) :
    Calls Try.prog 33 #[.slice a n cap, .slice b m cb, .int .i64 N] w (Gives w (nthO R C N)) := by
  have l1 := h.1
  have l2 := h'.1
  obtain ⟨W0, hW0⟩ : ∃ W0, W0 = w.alloc (.cells #[.int .i64 0, .slice none 0 0] 30) := ⟨_, rfl⟩
  have bb : Hid (Below w.heap.size w W0) := by subst hW0; exact (Below.refl _ _).alloc (Nat.le_refl _) _
  have r0 : W0.cell? ⟨w.heap.size, 0, none⟩ = some (.int .i64 0) := by subst hW0; go_simp
  have r1 : W0.cell? ⟨w.heap.size, 1, none⟩ = some (.slice none 0 0) := by subst hW0; go_simp
  have rf : ∀ o, W0.frozen? ⟨w.heap.size, o, none⟩ = false := fun o => by subst hW0; go_simp
  have rR := Lib.hid (h.bel bb.out)
  have rC := Lib.hid (h'.bel bb.out)
  obtain ⟨S, hS⟩ : ∃ S, scO R C = S := ⟨_, rfl⟩
  have csc := Lib.hid (sc_spec a n cap b m cb R C W0 rR.out rC.out hn hm hcap)
  rw [hS] at csc
  have hSb : -1 ≤ S ∧ S ≤ 65536 := by
    rw [← hS]; unfold scO
    split
    · rename_i hc; have := cnt_16 (ctdB_parts hc).2; omega
    · omega
  have hiw : IntKind.i64.wrap (S - 1) = S - 1 := IntWalk.i64_in _ ⟨by omega, by omega⟩
  obtain ⟨O, hO⟩ : ∃ O, nthO R C N = O := ⟨_, rfl⟩
  rw [hO]
  replace hO := Lib.hid hO
  replace hS := Lib.hid hS
  have l1 := Lib.hid l1
  have l2 := Lib.hid l2
  have hR0 := Lib.hid h
  clear h h'
  by_cases h0 : 0 ≤ N ∧ N ≤ S - 1
  case neg =>
    obtain rfl : O = .no := hO.out.symm.trans (nto_no (by rw [hS.out]; omega))
    have cin := Lib.hid (fun wx => in_no N 0 (S - 1) wx (by omega))
    clear h0
    go_enter Try.func33, Try.ntmps33
    go_upto_region 1 with fail
    rw [← hW0]
    clear hW0
    go_wp2_with fail
    refine csc.out.mono ?_
    rintro e w2 ⟨rfl, hb⟩
    have hz : w.heap.size < W0.heap.size := block_lt r0
    replace rf : ∀ o, w2.frozen? ⟨w.heap.size, o, none⟩ = false := fun o => (hb.frozen (p := ⟨w.heap.size, o, none⟩) hz).trans (rf o)
    replace r0 := kept hb (block_lt r0) r0
    replace r1 := kept hb (block_lt r1) r1
    replace bb := Lib.hid (bb.out.trans (hb.mono bb.out.size))
    clear hb csc
    go_wp2_with fail
    refine (cin.out _).mono ?_
    rintro e w3 ⟨rfl, rfl⟩
    go_wp2_with fail
    refine bodyPost_ret (v := .tuple #[.agg #[.int .i64 0, .slice none 0 0], .bool false]) (by simp [results, Try.results33, go_sem, r0, r1]) rfl ?_
    exact ⟨⟨none, 0, rfl, own_nil _ _⟩, (bb.out.setCell (by simp) _).setCell (by simp) _⟩
  obtain ⟨hct, hNc, hOe⟩ := nto_yes (R := R) (C := C) (N := N) (by omega) (by rw [hS.out]; omega)
  rw [hO.out, l2.out] at hOe
  have cin := Lib.hid (fun wx => in_yes N 0 (S - 1) wx h0.1 h0.2)
  obtain ⟨N, rfl⟩ := Int.eq_ofNat_of_zero_le h0.1
  rw [Int.toNat_natCast] at hOe
  subst hOe
  have hsv := (ctdB_parts hct).1
  have h16 := (ctdB_parts hct).2
  obtain ⟨⟨hn1, hn6⟩, ⟨hw1, hw6⟩, hbR, hbC⟩ := sumsB_parts hsv
  have hc16 := cnt_16 h16
  have hnl := nth_len hNc
  rw [l1.out] at hn1 hn6 hbR hbC hnl
  rw [l2.out] at hw1 hw6 hbR hbC
  have hway : (N : Int) < wayI m R C := by
    have := way_num m R C l2.out (fun j hj => (hbC j hj).1)
    rw [this, l1.out]
    have e : cntS R C = nOf (fitP R C m n) m n := by unfold cntS; rw [l1.out, l2.out]
    omega
  have hpre : Hid (Pre m R C N 0 [] C N) := pre_start l2.out (fun j hj => ⟨(hbC j hj).1, by have := (hbC j hj).2; omega⟩) (by omega) hway
  have hend : Hid (∀ xs, NthR m R C N xs → xs = nthS R C N) := fun xs hx => by
    rw [← l2.out] at hx
    exact (nthr_nth hsv hx).2
  obtain ⟨Z, hZ⟩ : ∃ Z, nthS R C N = Z := ⟨_, rfl⟩
  rw [hZ] at hend hnl ⊢
  replace hZ := Lib.hid hZ
  clear hct hNc hsv h16 hbR hbC hc16 hway hO hS h0
  obtain ⟨ra, ro, rfl, _⟩ := row_at rR.out (show 0 < n by omega)
  go_enter Try.func33, Try.ntmps33
  go_upto_region 1 with fail
  rw [← hW0]
  clear hW0
  go_wp2_with fail
  refine csc.out.mono ?_
  rintro e w2 ⟨rfl, hb⟩
  have hz : w.heap.size < W0.heap.size := block_lt r0
  replace rf : ∀ o, w2.frozen? ⟨w.heap.size, o, none⟩ = false := fun o => (hb.frozen (p := ⟨w.heap.size, o, none⟩) hz).trans (rf o)
  replace r0 := kept hb (block_lt r0) r0
  replace r1 := kept hb (block_lt r1) r1
  replace rC := Lib.hid (rC.out.bel hb)
  replace bb := Lib.hid (bb.out.trans (hb.mono bb.out.size))
  clear hb csc
  go_wp2_with fail
  refine (cin.out _).mono ?_
  rintro e w3 ⟨rfl, rfl⟩
  have hz2 : w.heap.size < w2.heap.size := block_lt r0
  obtain ⟨U0, hU0, hb5, i0, i1, jf, oz⟩ := mkg w2 m
  have hG : Hid (Gm w U0 m (w2.heap.size + 1) w2.heap.size 0 0 w2.heap.size []) :=
    ⟨kept hb5 (block_lt r0) r0, kept hb5 (block_lt r1) r1, fun o => (hb5.frozen (p := ⟨w.heap.size, o, none⟩) hz2).trans (rf o), i0, i1, jf, oz, bb.out.trans (hb5.mono bb.out.size), by omega⟩
  replace rC := Lib.hid (rC.out.bel hb5)
  obtain ⟨B8, hB8⟩ : ∃ B, w2.heap.size = B := ⟨_, rfl⟩
  have hBU : B8 + 1 < U0.heap.size := by rw [← hB8]; exact block_lt i0
  rw [hB8] at hG
  replace hB8 := Lib.hid hB8
  clear hb5 r0 r1 rf bb i0 i1 jf oz hz hz2
  go_upto_region 4 with fail
  (try rw [hU0])
  (try rw [hB8.out])
  clear hU0 hB8
  obtain ⟨rb, rof, rfl, _⟩ := row_at rC.out (show 0 < m by omega)
  have hnw := Lib.hid (row_news rC.out (by omega))
  obtain ⟨t0, ti, tz0, tz1, tz2⟩ := info_parts infoInt
  go_wp2_with (at_builtin; refine wpList_append_own _ rfl _ _ 23 rfl U0.heap.size 3 t0 (.int .i64 0) 1 8 Try.underlying23 ti tz0 tz1 tz2 rfl (by decide) _ 0 [] rfl (World.ownsRow_lit U0 #[] 0 (Nat.le_refl _) (by decide) rfl) ⟨rb, rof, none⟩ m cb (C.map (Value.int .i64)) rfl ?c1 ?c2 ?c3 ?c4 ?c5 ?c6 ?_)
  case c1 => rw [List.length_map]; have := l2.out; omega
  case c2 => exact fun j u hj => World.cell?_alloc_some (hnw.out j u hj)
  case c3 => exact ints_oneCell _ _
  case c4 => unfold maxLen; omega
  case c5 => omega
  case c6 => simp
  intro v' w4 hown hgr hnil
  obtain ⟨aL, cL, rfl, ho⟩ := own_of (xs := C) (n := m) (by simpa using hown)
  have hb : Below U0.heap.size U0 w4 := ((Below.refl _ _).alloc (Nat.le_refl _) _).grown hgr (by simp) (fun k hk => by simp [Value.ownBlock] at hk; omega)
  have rL : Hid (Row w4 aL m C) := ho.row
  have hrl := rng_own ho
  obtain ⟨bl, rfl⟩ : ∃ g, aL = some ⟨g, 0, none⟩ := by
    rcases ho.cases with ⟨_, h, _⟩ | ⟨g, h, _⟩
    · omega
    · exact ⟨g, h⟩
  have hbl := (hrl _ rfl).1
  have hl1 : bl ≠ B8 ∧ bl ≠ B8 + 1 := by simp at hbl; omega
  replace hG := Lib.hid (hG.out.move hb)
  clear hown hgr hnil ho hrl hbl hb hnw ti tz0 tz1 tz2 rC hBU
  go_wp2_with fail
  go_loopw [2, 9, 10] (fun o l i wr => ∃ (k : Nat) (ys cs : List Int) (nv : Int) (bl cl g c : Nat), k ≤ n ∧ i = .int .i64 k ∧ o = .int .i64 nv ∧ l = .slice (some ⟨bl, 0, none⟩) m cl ∧ (bl ≠ g ∧ bl ≠ B8 + 1) ∧ Hid (Pre m R C N k ys cs nv) ∧ Hid (Row wr (some ⟨bl, 0, none⟩) m cs) ∧ Hid (Gm w wr m (B8 + 1) g c k B8 ys)) (fun _ _ i _ => n - (intOf i).toNat)
  case atStart => exact ⟨0, [], C, N, bl, cL, B8, 0, Nat.zero_le _, rfl, rfl, rfl, hl1, hpre, rL, hG⟩
  case round =>
    clear hpre rL hG hl1
    obtain ⟨k, ys, cs, nv, bl, cl, g, c, hk, rfl, rfl, rfl, hl1, hpre, rL, hG⟩ := hrel
    obtain ⟨wo, rfl⟩ : ∃ wo : World, wo = wr := ⟨_, rfl⟩
    by_cases hlt : k < n
    case neg =>
      obtain rfl : k = n := by omega
      obtain rfl : ys = Z := hend.out ys (by have := hpre.out; rw [← l1.out] at this; exact this.done)
      have hN1 := hG.out
      have i0 := hN1.i0
      have i1 := hN1.i1
      have r0 := hN1.r0
      have r1 := hN1.r1
      have rf := hN1.rf
      have hd := hN1.d1
      have ho := Lib.hid hN1.own
      have bb := Lib.hid hN1.bel
      clear hG hN1
      go_wp2_with fail
      refine bodyPost_ret (v := .tuple #[.agg #[.int .i64 m, .slice (some ⟨g, 0, none⟩) k c], .bool true]) (by simp [results, Try.results33, go_sem, r0, r1]) rfl ?_
      have lL : (Out.mk true (m : Int) ys).xs.length = k := hnl
      refine ⟨⟨some ⟨g, 0, none⟩, c, by rw [lL], ?_⟩, (bb.out.setCell (by simp) _).setCell (by simp) _⟩
      rw [lL]
      exact ((ho.out.store hd.1 _).store hd.1 _).mono (by omega)
    have hkR : k < R.length := by have := l1.out; omega
    obtain ⟨d, hd⟩ : ∃ d, n - k = d + 1 := ⟨n - k - 1, by omega⟩
    have rR2 := row_dropR (hR0.out.bel hG.out.bel) hlt
    rw [hd] at rR2
    have hh1 := hpre.out.h1
    rw [drop_hd hkR] at hh1
    have c8 := row16_spec m hw1 hw6 (R.getD k 0) (R.drop (k + 1)) ra (ro + k) d (cap - k) (some ⟨bl, 0, none⟩) cl cs nv wo rR2 rL.out (by omega) (by omega) hpre.out.hb hpre.out.h0 hh1
    rw [← hd] at c8
    have hkc : ¬ cap = k := by omega
    have hkc2 : k ≤ cap := by omega
    have hb6 := Lib.hid hpre.out.hb
    replace c8 := Lib.hid c8
    replace hd := Lib.hid hd
    clear rR2 hh1
    go_wp2_with fail
    refine c8.out.mono ?_
    rintro e w5 ⟨⟨x, rfl, q1, q2, q3⟩, hb5⟩
    obtain ⟨_, ht, hpre2⟩ := hpre.out.step hw6 hkR q1 q2 q3
    have hx64 := pn_64 hw6
    have hG5 := Lib.hid (hG.out.move hb5)
    replace rL := Lib.hid (rL.out.bel hb5)
    have hblt : bl < w5.heap.size := by
      obtain ⟨_, _, e, hc⟩ := row_at rL.out (show 0 < m by omega)
      cases e; exact block_lt hc
    obtain ⟨nv2, hnv2⟩ : ∃ v, nv - befI m (R.getD k 0) (R.drop (k + 1)) cs x = v := ⟨_, rfl⟩
    rw [hnv2] at hpre2 ⊢
    replace hpre2 := Lib.hid hpre2
    have ht2 := Lib.hid ht
    have i1 := hG5.out.i1
    have hB8w : B8 ≤ w5.heap.size := by have := hG5.out.d1; have : B8 + 1 < w5.heap.size := block_lt hG5.out.i0; omega
    clear hb5 hG c8 q2 q3 hpre ht hnv2
    go_wp2_with (at_builtin; refine wpList_append_int rfl _ _ rfl B8 g k c ys rfl (World.ownsRow.alloc hG5.out.own _) w5.heap.size rfl (x : Int) (by simp) (by omega) (by simp; omega) ?_)
    intro g' c' w6 hown hgr hlies
    have hl3 : g' = g ∨ g' = w5.heap.size + 1 := by simpa using hlies
    obtain ⟨k1, k2, hG6⟩ := hG5.out.app (x := (x : Int)) (by rw [List.map_append]; exact hown) hgr hl3
    have hl2 : bl ≠ g' ∧ bl ≠ B8 + 1 := by omega
    have rL6 := row_set (g := B8 + 1) (i := 1) (v := .slice (some ⟨g', 0, none⟩) (k + 1) c') ((rL.out.alloc (.cells #[.int .i64 (x : Int)] 3)).apart hgr (fun b off e _ => by cases e; intro e2; exact hl1.1 (Option.some.inj e2))) hl1.2
    replace hG6 := Lib.hid hG6
    replace rL6 := Lib.hid rL6
    clear hown hgr hlies hG5 rL
    have ctk := Lib.hid (fun wx hx => take_spec (some ⟨bl, 0, none⟩) m cl cs (x : Int) wx hx hw1 hw6 hb6.out (by omega) (by omega))
    go_wp2_with fail
    refine (ctk.out _ rL6.out).mono ?_
    rintro e w7 ⟨hres, hb⟩
    have hG7 := Lib.hid (hG6.out.move hb)
    have hgl : g' < (w6.setCell ⟨B8 + 1, 1, none⟩ (.slice (some ⟨g', 0, none⟩) (k + 1) c')).heap.size := (rng_own hG6.out.own _ rfl).2
    have hkl : B8 + 1 < (w6.setCell ⟨B8 + 1, 1, none⟩ (.slice (some ⟨g', 0, none⟩) (k + 1) c')).heap.size := block_lt hG6.out.i0
    clear hb
    rcases hres with ⟨ht, g2, c2, rfl, ho⟩ | ⟨ht, g2, c2, rfl⟩
    · have ho3 := Lib.hid ho.row
      have hge2 := (rng_own ho _ rfl).1
      have hl4 : g2 ≠ g' ∧ g2 ≠ B8 + 1 := by simp only at hge2; omega
      clear ho ht ctk hG6 rL6 hge2 hgl hkl
      go_wp2_with fail
      exact ⟨⟨k + 1, _, _, nv2, g2, c2, g', c', by omega, by go_num, rfl, rfl, hl4, hpre2, ho3, hG7⟩, by simp [intOf]; omega⟩
    · have := ht2.out
      rw [this] at ht; cases ht
set_option maxHeartbeats 4000000 in
theorem next_spec (V : Int) (a : Option Addr) (n cap : Nat) (xs : List Int) (w : World) (h : Row w a n xs) (hm : n ≤ 9223372036854775807) :
    Calls Try.prog 37 #[.agg #[.int .i64 V, .slice a n cap]] w (Gives w (nxO V xs)) := by
  obtain ⟨W0, hW0⟩ : ∃ W0, W0 = ((w.alloc (.cells #[.int .i64 V, .slice a n cap] 30)).alloc (.cells #[.int .i64 0, .slice none 0 0] 30)) := ⟨_, rfl⟩
  have bb : Hid (Below w.heap.size w W0) := by subst hW0; exact ((Below.refl _ _).alloc (Nat.le_refl _) _).alloc (by simp) _
  have x0 : W0.cell? ⟨w.heap.size, 0, none⟩ = some (.int .i64 V) := by subst hW0; go_simp
  have x1 : W0.cell? ⟨w.heap.size, 1, none⟩ = some (.slice a n cap) := by subst hW0; go_simp
  have y0 : W0.cell? ⟨w.heap.size + 1, 0, none⟩ = some (.int .i64 0) := by subst hW0; go_simp
  have y1 : W0.cell? ⟨w.heap.size + 1, 1, none⟩ = some (.slice none 0 0) := by subst hW0; go_simp
  have yf : ∀ o, W0.frozen? ⟨w.heap.size + 1, o, none⟩ = false := fun o => by subst hW0; go_simp
  have hz : w.heap.size + 1 < W0.heap.size := block_lt y0
  have r := Lib.hid (h.bel bb.out)
  have hrb := rko_bd V xs
  have c3 := Lib.hid (rank_spec V a n cap xs W0 r.out hm)
  by_cases hneg : rkO V xs < 0
  · rw [nxo_neg hneg]
    obtain ⟨K, hK⟩ : ∃ K, rkO V xs = K := ⟨_, rfl⟩
    rw [hK] at c3 hneg
    clear h hrb hK
    go_enter Try.func37, Try.ntmps37
    go_upto_region 1 with fail
    rw [← hW0]
    clear hW0
    go_wp2_with fail
    refine c3.out.mono ?_
    rintro e w2 ⟨rfl, hb⟩
    replace yf : ∀ o, w2.frozen? ⟨w.heap.size + 1, o, none⟩ = false := fun o => (hb.frozen (p := ⟨w.heap.size + 1, o, none⟩) hz).trans (yf o)
    replace y0 := kept hb (block_lt y0) y0
    replace y1 := kept hb (block_lt y1) y1
    replace bb := Lib.hid (bb.out.trans (hb.mono bb.out.size))
    clear hb c3 x0 x1
    go_wp2_with fail
    refine bodyPost_ret (v := .tuple #[.agg #[.int .i64 0, .slice none 0 0], .bool false]) (by simp [results, Try.results37, go_sem, y0, y1]) rfl ?_
    exact ⟨⟨none, 0, rfl, own_nil _ _⟩, (bb.out.setCell (by simp) _).setCell (by simp) _⟩
  have hlen := rsout_len2 V xs
  unfold nxO
  obtain ⟨R, hR⟩ : ∃ R, rsOut V xs = R := ⟨_, rfl⟩
  obtain ⟨C, hC⟩ : ∃ C, csOut V xs = C := ⟨_, rfl⟩
  obtain ⟨K, hK⟩ : ∃ K, rkO V xs = K := ⟨_, rfl⟩
  have c1 := Lib.hid (fun (wx : World) (hx : Row wx a n xs) => rsums_spec V a n cap xs wx hx hm)
  have c2 := Lib.hid (fun (wx : World) (hx : Row wx a n xs) => csums_spec V a n cap xs wx hx hm)
  rw [hR] at c1 hlen ⊢
  rw [hC] at c2 hlen ⊢
  rw [hK] at c3 hrb hneg ⊢
  obtain ⟨NR, hNR⟩ : ∃ k, R.length = k := ⟨_, rfl⟩
  obtain ⟨NC, hNC⟩ : ∃ k, C.length = k := ⟨_, rfl⟩
  unfold GivesL at c1 c2
  rw [hNR] at c1 hlen
  rw [hNC] at c2 hlen
  have c4 := Lib.hid (fun (aR : Option Addr) (cR : Nat) (aC : Option Addr) (cC : Nat) (wx : World) (h1 : Row wx aR NR R) (h2 : Row wx aC NC C) (h3 : NR ≤ cR) => nth_spec aR NR cR aC NC cC R C (K + 1) wx h1 h2 hlen.1 hlen.2 h3)
  obtain ⟨O, hO⟩ : ∃ O, nthO R C (K + 1) = O := ⟨_, rfl⟩
  rw [hO] at c4 ⊢
  obtain ⟨ok, OW, OL⟩ := O
  unfold Gives at c4 ⊢
  simp only at c4 ⊢
  obtain ⟨ln, hln⟩ : ∃ k, OL.length = k := ⟨_, rfl⟩
  rw [hln] at c4 ⊢
  have hiw : IntKind.i64.wrap (K + 1) = K + 1 := IntWalk.i64_in _ ⟨by omega, by omega⟩
  clear h hNR hNC hR hC hK hO hln
  go_enter Try.func37, Try.ntmps37
  go_upto_region 1 with fail
  rw [← hW0]
  clear hW0
  go_wp2_with fail
  refine c3.out.mono ?_
  rintro e w1 ⟨rfl, hb⟩
  replace yf : ∀ o, w1.frozen? ⟨w.heap.size + 1, o, none⟩ = false := fun o => (hb.frozen (p := ⟨w.heap.size + 1, o, none⟩) hz).trans (yf o)
  replace x0 := kept hb (block_lt x0) x0
  replace x1 := kept hb (block_lt x1) x1
  replace y0 := kept hb (block_lt y0) y0
  replace y1 := kept hb (block_lt y1) y1
  replace r := Lib.hid (r.out.bel hb)
  replace bb := Lib.hid (bb.out.trans (hb.mono bb.out.size))
  have r0 := Lib.hid (r.out.bel (w' := w1.drew) ((Below.refl _ _).drew))
  have hz1 : w.heap.size + 1 < w1.heap.size := block_lt y0
  clear hb c3 hz
  go_upto_region 4 with fail
  go_cut [3] (fun s3 wx => ∃ (aO : Option Addr) (cO : Nat), s3 = .bool ok ∧ wx.cell? ⟨w.heap.size + 1, 0, none⟩ = some (.int .i64 OW) ∧ wx.cell? ⟨w.heap.size + 1, 1, none⟩ = some (.slice aO ln cO) ∧ Hid (OwnI wx w.heap.size aO ln cO OL) ∧ Hid (Below w.heap.size w wx))
  case first =>
    go_wp2_with fail
    go_region_law (first
      | ((go_simp; go_at_call 64; (with_reducible refine (c1.out _ r0.out).mono ?_); rintro e w2 ⟨⟨aR, cR, rfl, hoR⟩, hb2⟩; have hb : Below w1.heap.size w1 w2 := (((Below.refl _ _).drew).trans (hb2.mono (Nat.le_refl _))); have x0 := kept hb (block_lt x0) x0; have x1 := kept hb (block_lt x1) x1; have yf : (∀ o, w2.frozen? ⟨w.heap.size + 1, o, none⟩ = false) := (fun o => (hb.frozen (p := ⟨w.heap.size + 1, o, none⟩) hz1).trans (yf o)); have y0 := kept hb (block_lt y0) y0; have y1 := kept hb (block_lt y1) y1; have r2 := Lib.hid (r.out.bel hb); have hcR := own_cap hoR; have rR := Lib.hid hoR.row; have bb := Lib.hid (bb.out.trans (hb.mono bb.out.size)); have hz2 : w.heap.size + 1 < w2.heap.size := block_lt y0; clear hb hb2 hoR))
      | ((go_simp; go_at_call 65; (with_reducible refine (c2.out _ r2.out).mono ?_); rintro e w3 ⟨⟨aC, cC, rfl, hoC⟩, hb⟩; have x0 := kept hb (block_lt x0) x0; have x1 := kept hb (block_lt x1) x1; have yf : (∀ o, w3.frozen? ⟨w.heap.size + 1, o, none⟩ = false) := (fun o => (hb.frozen (p := ⟨w.heap.size + 1, o, none⟩) hz2).trans (yf o)); have y0 := kept hb (block_lt y0) y0; have y1 := kept hb (block_lt y1) y1; have rR2 := Lib.hid (rR.out.bel hb); have rC := Lib.hid hoC.row; have bb := Lib.hid (bb.out.trans (hb.mono bb.out.size)); have hz3 : w.heap.size + 1 < w3.heap.size := block_lt y0; clear hb hoC))
      | ((go_simp; go_at_call 33; (with_reducible refine (c4.out _ _ _ _ _ rR2.out rC.out hcR).mono ?_); rintro e w5 ⟨⟨aO, cO, rfl, hoO⟩, hb⟩; have yf : (∀ o, w5.frozen? ⟨w.heap.size + 1, o, none⟩ = false) := (fun o => (hb.frozen (p := ⟨w.heap.size + 1, o, none⟩) hz3).trans (yf o)); have y0 := kept hb (block_lt y0) y0; have y1 := kept hb (block_lt y1) y1; have hoO := Lib.hid hoO; have bw4 := bb.out.size; have bb := Lib.hid (bb.out.trans (hb.mono bb.out.size)); clear hb)))
    all_goals
      go_wp2_with fail
      go_meet
      exact ⟨aO, cO, rfl, by go_simp, by go_simp, Lib.hid (((hoO.out.store hz3 _).store hz3 _).mono (by omega)), Lib.hid ((bb.out.setCell (by simp) _).setCell (by simp) _)⟩
  case rest =>
    obtain ⟨aO, cO, rfl, z0, z1, hoO, bB⟩ := hcut
    clear x0 x1 y0 y1 yf r r0 bb
    go_wp2_with fail
    refine bodyPost_ret (v := .tuple #[.agg #[.int .i64 OW, .slice aO ln cO], .bool ok]) (by simp [results, Try.results37, go_sem, z0, z1]) rfl ?_
    exact ⟨⟨aO, cO, rfl, hoO.out⟩, bB.out⟩
end Go.Proofs.Ytnfkafaolelkbaa

