/-
  The contracts of the model's l14Image and ImageSteps.
-/
import Derived.Test.YtnhcknbbkmaiiaaNl
import Derived.Test.YtnhcknbbkmaiiaaNk
import Derived.Deep.RegionHeld3
namespace Go.Proofs.Ytnhcknbbkmaiiaa
set_option maxRecDepth 100000
open Go.RowKit

set_option maxHeartbeats 2000000 in
theorem image_spec (W n K : Nat) (w : World) (hw6 : W ≤ 6) (hn1 : 1 ≤ n) (hn6 : n ≤ 6) (h12 : n * W ≤ 12) (hK : K ≤ 4096) :
    Calls Try.prog 108 #[.int .i64 n, .int .i64 W, .int .i64 K] w fun e w' => (∃ g, e = .returned (.agg #[.int .i64 W, .slice (some ⟨g, 0, none⟩) n n]) ∧ OwnI w' w.heap.size (some ⟨g, 0, none⟩) n n (digL W n K)) ∧ Below w.heap.size w w' := by
  obtain ⟨N, hN⟩ : ∃ N, n * W = N := ⟨_, rfl⟩
  have hN12 : N ≤ 12 := by omega
  replace hN := Lib.hid hN
  obtain ⟨W0, hW0⟩ : ∃ W0, W0 = (w.alloc (.cells #[.int .i64 0, .slice none 0 0] 25)) := ⟨_, rfl⟩
  have bb : Hid (Below w.heap.size w W0) := by subst hW0; exact (Below.refl _ _).alloc (Nat.le_refl _) _
  have y0 : W0.cell? ⟨w.heap.size, 0, none⟩ = some (.int .i64 0) := by subst hW0; go_simp
  have y1 : W0.cell? ⟨w.heap.size, 1, none⟩ = some (.slice none 0 0) := by subst hW0; go_simp
  have yf : ∀ o, W0.frozen? ⟨w.heap.size, o, none⟩ = false := fun o => by subst hW0; go_simp
  have l0 : w.heap.size < W0.heap.size := block_lt y0
  go_enter Try.func108, Try.ntmps108
  go_upto_region 1 with fail
  rw [← hW0]
  clear hW0
  go_wp2_with fail
  refine (blank_spec (W : Int) n _ (by omega)).mono ?_
  rintro e v1 ⟨⟨g, rfl, hgg, ho⟩, hb⟩
  have szv1 := hb.size
  replace yf : ∀ o, v1.frozen? ⟨w.heap.size, o, none⟩ = false := fun o => (hb.frozen (p := ⟨w.heap.size, o, none⟩) (show w.heap.size < _ from block_lt y0)).trans (yf o)
  replace y0 := kept hb (block_lt y0) y0
  replace y1 := kept hb (block_lt y1) y1
  replace bb := Lib.hid (bb.out.trans (hb.mono bb.out.size))
  have og := rng_own ho _ rfl
  have og2 : g < v1.heap.size := og.2
  clear og
  clear hb
  obtain ⟨B, hB⟩ : ∃ B, v1.heap.size = B := ⟨_, rfl⟩
  obtain ⟨U0, hU0⟩ : ∃ U0, v1.alloc (.cells #[.int .i64 W, .slice (some ⟨g, 0, none⟩) n n] 25) = U0 := ⟨_, rfl⟩
  have hb : Below v1.heap.size v1 U0 := by rw [← hU0]; exact (Below.refl _ _).alloc (Nat.le_refl _) _
  have o0 : U0.cell? ⟨B, 0, none⟩ = some (.int .i64 W) := by rw [← hU0, ← hB]; simp
  have o1 : U0.cell? ⟨B, 1, none⟩ = some (.slice (some ⟨g, 0, none⟩) n n) := by rw [← hU0, ← hB]; simp
  replace ho := Lib.hid ho
  have szU0 := hb.size
  replace yf : ∀ o, U0.frozen? ⟨w.heap.size, o, none⟩ = false := fun o => (hb.frozen (p := ⟨w.heap.size, o, none⟩) (show w.heap.size < _ from block_lt y0)).trans (yf o)
  replace y0 := kept hb (block_lt y0) y0
  replace y1 := kept hb (block_lt y1) y1
  replace ho := Lib.hid (ho.out.bel hb)
  replace bb := Lib.hid (bb.out.trans (hb.mono bb.out.size))
  clear hb
  have hgB : g < B := by omega
  go_upto_region 2 with fail
  (try rw [hU0])
  (try rw [hB])
  clear hU0 szU0
  have bb1 := bb.out.size
  have lB : B < U0.heap.size := block_lt o0
  have hO0 := Lib.hid (show OwnI U0 W0.heap.size (some ⟨g, 0, none⟩) n n (rowsL (digK W K 0) n) by rw [digk_none]; exact ho.out)
  have lg : w.heap.size < g := by omega
  have hne : B ≠ g := by omega
  clear ho
  go_upto_region 3 with fail
  go_loopw [8] (fun v wr => ∃ i : Nat, i ≤ n ∧ v = .int .i64 i ∧ Hid (U0.grownBy wr (some g)) ∧ Hid (OwnI wr W0.heap.size (some ⟨g, 0, none⟩) n n (rowsL (digK W K i) n))) (fun v _ => n - (intOf v).toNat)
  case atStart => exact ⟨0, Nat.zero_le _, rfl, Lib.hid (World.grownBy.refl _ _), hO0⟩
  case round =>
    clear hO0
    obtain ⟨i, hi, rfl, hG, hO⟩ := hrel
    obtain ⟨wi, rfl⟩ : ∃ wi : World, wi = wr := ⟨_, rfl⟩
    have q0 := hG.out.cell o0 (by simpa using hne)
    have q1 := hG.out.cell o1 (by simpa using hne)
    by_cases hli : i < n
    case pos =>
      obtain ⟨m, hm⟩ : ∃ m, i * W = m := ⟨_, rfl⟩
      have em : (i : Int) * (W : Int) = (m : Int) := by rw [← hm, Int.natCast_mul]
      have hm12 : m ≤ 12 := by have h1 := Nat.mul_le_mul_right W (Nat.le_of_lt hli); have h2 := hN.out; omega
      have hm90 : -9223372036854775808 ≤ (m : Int) ∧ (m : Int) ≤ 9223372036854775807 := by omega
      have hfacts : ∃ Pm PW Q D : Int, pw m = Pm ∧ pw W = PW ∧ 1 ≤ Pm ∧ 1 ≤ PW ∧ PW ≤ 64 ∧ (K : Int).tdiv Pm = Q ∧ (K : Int) / Pm = Q ∧ 0 ≤ Q ∧ Q ≤ 4096 ∧ Q.tmod PW = D ∧ Q % PW = D ∧ digI W (K : Int) i = D ∧ 0 ≤ D ∧ D ≤ 63 := by
        have d0 : 0 ≤ (K : Int) / pw m := Int.ediv_nonneg (by omega) (by have := pw_pos m; omega)
        have d1 : (K : Int) / pw m ≤ (K : Int) := Int.ediv_le_self _ (by omega)
        have hdb := dig_bd W (K : Int) i
        have hw64 := pw_63 hw6
        refine ⟨pw m, pw W, (K : Int) / pw m, digI W (K : Int) i, rfl, rfl, pw_pos m, pw_pos W, hw64, Int.tdiv_eq_ediv_of_nonneg (by omega), rfl, d0, by omega, ?_, ?_, rfl, hdb.1, by omega⟩
        · rw [Int.tmod_eq_emod_of_nonneg d0]; unfold digI; rw [hm]
        · unfold digI; rw [hm]
      obtain ⟨Pm, PW, Q, D, hPm, hPW, p1m, p1W, pW64, ht1, ht0, hQ0, hQ5, ht2, ht3, hD, hD0, hD6⟩ := hfacts
      have hs := (hO.out.bel ((Below.refl _ _).drew)).set i (digI W (K : Int) i)
      rw [digk_set (K : Int) hli, hD] at hs
      replace hPm := Lib.hid hPm
      replace hPW := Lib.hid hPW
      replace hD := Lib.hid hD
      replace hm := Lib.hid hm
      have hnz1 : ¬ Pm = 0 := by omega
      have hnz2 : ¬ PW = 0 := by omega
      have hnb1 : (Pm == 0) = false := by rw [beq_eq_false_iff_ne]; exact hnz1
      have hnb2 : (PW == 0) = false := by rw [beq_eq_false_iff_ne]; exact hnz2
      have hwQ : IntKind.i64.wrap Q = Q := IntWalk.i64_in _ ⟨by omega, by omega⟩
      have hwD : IntKind.i64.wrap D = D := IntWalk.i64_in _ ⟨by omega, by omega⟩
      obtain ⟨W2, hW2⟩ : ∃ W2, wi.drew = W2 := ⟨_, rfl⟩
      rw [hW2] at hs
      have hb2 : Below wi.heap.size wi W2 := by rw [← hW2]; exact (Below.refl _ _).drew
      replace q0 := kept hb2 (block_lt q0) q0
      replace q1 := kept hb2 (block_lt q1) q1
      have hc := own_cell (hO.out.bel hb2) hli
      have hf := (hO.out.bel hb2).frozen
      have hG4 := Lib.hid (grown_set (j := i) (v := .int .i64 D) (grown_trans hG.out (below_grown hb2 (some g))))
      replace hs := Lib.hid hs
      generalize (rowsL (digK W (K : Int) i) n).getD i 0 = cc at hc
      clear hG hO hb2
      have ewm : wrap64 (m : Int) = (m : Int) := IntWalk.wrap64_in _ hm90
      have ewm2 : IntKind.i64.wrap (m : Int) = (m : Int) := IntWalk.i64_in _ hm90
      go_wp2_with fail
      refine region_tail 13 (by kernel_rfl) (by kernel_rfl) W2 hW2 ?_
      simp only [List.take_succ_cons, List.take_zero, List.drop_succ_cons, List.drop_zero]
      clear hW2
      have gPm := hPm.out
      have gPW := hPW.out
      have hm30 : m ≤ 30 := Nat.le_trans hm12 (by decide)
      have hW30 : W ≤ 30 := Nat.le_trans hw6 (by decide)
      repeat (first | still_step | still_call (st (power_any _ _ (by assumption))))
      refine wpStill_nil ?_
      go_wp2_with fail
      exact ⟨⟨i + 1, by omega, by go_num, hG4, hs⟩, by simp [intOf]; omega⟩
    obtain rfl : n = i := by omega
    rw [digk_all] at hO
    have u0 := hG.out.cell y0 (by simp; omega)
    have u1 := hG.out.cell y1 (by simp; omega)
    have uf : ∀ o, wi.frozen? ⟨w.heap.size, o, none⟩ = false := fun o => (World.frozen?_of_block (a := ⟨w.heap.size, o, none⟩) (hG.out.block w.heap.size (by omega) (by simp; omega))).trans (yf o)
    have bG : Below w.heap.size w wi := bb.out.trans ((grown_below hG.out).mono (by omega))
    replace bG := Lib.hid bG
    go_wp2_with fail
    refine bodyPost_ret (v := .agg #[.int .i64 W, .slice (some ⟨g, 0, none⟩) n n]) (by simp [results, Try.results108, go_sem, u0, u1]) rfl ?_
    exact ⟨⟨g, rfl, ((hO.out.store (show w.heap.size < W0.heap.size by omega) _).store (show w.heap.size < W0.heap.size by omega) _).mono (by omega)⟩, (bG.out.setCell (by simp) _).setCell (by simp) _⟩

theorem steps_eq {xs : List Int} {W n : Nat} (hI : Im W n xs) (h : n * W ≤ 12) : stepsF xs W n 12 (pw (n * W)).toNat = stepI xs W n := by
  have hb := many_bd W xs n
  have : (n : Int) * (W : Int) ≤ 12 := by rw [← Int.natCast_mul]; omega
  exact (steps_is hI (b := 12) (by omega)).one (stepi_is hI)
theorem stepsf_succ (xs : List Int) (W n : Nat) (b : Int) (K : Nat) : stepsF xs W n b (K + 1) = if farL xs (digL W n K) W n < stepsF xs W n b K ∧ (swL (cellOf (digL W n K)) W n).length = 0 then farL xs (digL W n K) W n else stepsF xs W n b K := by
  simp only [stepsF]
  by_cases h : swL (cellOf (digL W n K)) W n = []
  · rw [if_pos h]
    by_cases h2 : farL xs (digL W n K) W n < stepsF xs W n b K
    · rw [if_pos ⟨h2, by rw [h]; rfl⟩]; omega
    · rw [if_neg (fun e => h2 e.1)]; omega
  · rw [if_neg h, if_neg (fun e => h (List.eq_nil_of_length_eq_zero e.2))]
set_option maxHeartbeats 4000000 in
theorem steps_spec (V : Int) (a : Option Addr) (n cap : Nat) (xs : List Int) (w : World) (h : Row w a n xs) (hm : n ≤ 9223372036854775807) :
    Calls Try.prog 48 #[.agg #[.int .i64 V, .slice a n cap]] w fun e w' => e = .returned (.int .i64 (stO V xs)) ∧ Below w.heap.size w w' := by
  have hl := h.1
  obtain ⟨W0, hW0⟩ : ∃ W0, W0 = (w.alloc (.cells #[.int .i64 V, .slice a n cap] 25)) := ⟨_, rfl⟩
  have bb : Hid (Below w.heap.size w W0) := by subst hW0; exact (Below.refl _ _).alloc (Nat.le_refl _) _
  have x0 : W0.cell? ⟨w.heap.size, 0, none⟩ = some (.int .i64 V) := by subst hW0; go_simp
  have x1 : W0.cell? ⟨w.heap.size, 1, none⟩ = some (.slice a n cap) := by subst hW0; go_simp
  have r := Lib.hid (h.bel bb.out)
  clear h
  by_cases hv : validB V xs = true
  case neg =>
    rw [sto_no (fun h => hv h.1)]
    have hv : validB V xs = false := by simpa using hv
    go_enter Try.func48, Try.ntmps48
    go_wp2_with fail
    rw [← hW0]
    clear hW0
    refine (valid_spec V a n cap xs _ r.out hm).mono ?_
    rintro e v1 ⟨rfl, hb⟩
    have szv1 := hb.size
    replace x0 := kept hb (block_lt x0) x0
    replace x1 := kept hb (block_lt x1) x1
    replace r := Lib.hid (r.out.bel hb)
    replace bb := Lib.hid (bb.out.trans (hb.mono bb.out.size))
    rw [hv]
    clear hb
    go_wp2_with fail
    go_ret
    exact ⟨rfl, bb.out⟩
  have hW := validB_W hv
  obtain ⟨W, rfl⟩ := Int.eq_ofNat_of_zero_le (by omega : 0 ≤ V)
  have hI : Im W n xs := Im.of hv hl
  have hw6 := hI.w6
  have hn6 := hI.l6
  have hw1 := hI.w1
  have hn1 := hI.l1
  obtain ⟨N, hN⟩ : ∃ N, n * W = N := ⟨_, rfl⟩
  have ek : (n : Int) * (W : Int) = (N : Int) := by rw [← hN, Int.natCast_mul]
  have hN36 : N ≤ 36 := by rw [← hN]; exact Nat.mul_le_mul hn6 hw6
  have ewN : wrap64 (N : Int) = (N : Int) := IntWalk.wrap64_in _ ⟨by omega, by omega⟩
  have ewN2 : IntKind.i64.wrap (N : Int) = (N : Int) := IntWalk.i64_in _ ⟨by omega, by omega⟩
  by_cases h12 : N ≤ 12
  case neg =>
    rw [sto_no (fun h => by rw [hl, ek] at h; omega)]
    have h12i : (12 : Int) < (N : Int) := by omega
    replace hN := Lib.hid hN
    replace hI := Lib.hid hI
    go_enter Try.func48, Try.ntmps48
    go_wp2_with fail
    rw [← hW0]
    clear hW0
    refine (valid_spec (W : Int) a n cap xs _ r.out hm).mono ?_
    rintro e v2 ⟨rfl, hb⟩
    have szv2 := hb.size
    replace x0 := kept hb (block_lt x0) x0
    replace x1 := kept hb (block_lt x1) x1
    replace r := Lib.hid (r.out.bel hb)
    replace bb := Lib.hid (bb.out.trans (hb.mono bb.out.size))
    rw [hv]
    clear hb
    go_wp2_with fail
    go_ret
    exact ⟨rfl, bb.out⟩
  rw [sto_yes hI (by omega), ← steps_eq hI (by omega)]
  have h12i : ¬ (12 : Int) < (N : Int) := by omega
  have hpN : pw (n * W) ≤ 4096 := by rw [hN]; have := pw_le N 12 h12; have e : pw 12 = 4096 := by decide
                                     omega
  have hp0 := pw_pos (n * W)
  obtain ⟨PP, hPP⟩ := Int.eq_ofNat_of_zero_le (show 0 ≤ pw (n * W) by omega)
  rw [hPP, Int.toNat_natCast]
  have hPP4 : PP ≤ 4096 := by omega
  have cp := Lib.hid (fun wx => power_any N wx (by omega))
  rw [← hN, hPP, hN] at cp
  have cI := Lib.hid (fun K (hK : K ≤ 4096) wx => image_spec W n K wx hw6 hn1 hn6 (by omega) hK)
  have hD := Lib.hid (fun K : Nat => dig_im (W := W) (n := n) hw1 hw6 hn1 hn6 (K : Int))
  have cF := Lib.hid (fun K s c wx (h1 : Row wx a n xs) (h2 : Row wx s n (digL W n (K : Nat))) => farx_any W a s n cap c xs _ wx h1 h2 hI (hD.out K))
  have cS := Lib.hid (fun K s c wx (h2 : Row wx s n (digL W n (K : Nat))) => swlist_spec (W : Int) s n c _ wx h2 (by omega))
  have hfb := Lib.hid (fun K : Nat => far_bd36 hI (digL W n (K : Nat)) (Nat.le_refl n))
  replace hN := Lib.hid hN
  replace hI := Lib.hid hI
  replace hPP := Lib.hid hPP
  clear hpN hp0
  go_enter Try.func48, Try.ntmps48
  go_wp2_with fail
  rw [← hW0]
  clear hW0
  refine (valid_spec (W : Int) a n cap xs _ r.out hm).mono ?_
  rintro e v3 ⟨rfl, hb⟩
  have szv3 := hb.size
  replace x0 := kept hb (block_lt x0) x0
  replace x1 := kept hb (block_lt x1) x1
  replace r := Lib.hid (r.out.bel hb)
  replace bb := Lib.hid (bb.out.trans (hb.mono bb.out.size))
  rw [hv]
  clear hb
  go_wp2_with fail
  go_loopw [3, 4] (fun o i wr => ∃ K : Nat, K ≤ PP ∧ i = .int .i64 K ∧ o = .int .i64 (stepsF xs W n 12 K) ∧ wr.cell? ⟨w.heap.size, 0, none⟩ = some (.int .i64 W) ∧ wr.cell? ⟨w.heap.size, 1, none⟩ = some (.slice a n cap) ∧ Hid (Row wr a n xs) ∧ Hid (Below w.heap.size w wr)) (fun _ i _ => PP - (intOf i).toNat)
  case atStart => exact ⟨0, Nat.zero_le _, rfl, rfl, x0, x1, r, bb⟩
  case round =>
    clear x0 x1 r bb
    obtain ⟨K, hK, rfl, rfl, x0, x1, r, bb⟩ := hrel
    obtain ⟨wo, rfl⟩ : ∃ wo : World, wo = wr := ⟨_, rfl⟩
    have hsu := stepsf_succ xs W n 12 K
    have hIK := hD.out K
    have c1 := Lib.hid (cI.out K (by omega))
    have c2 := Lib.hid (cF.out K)
    have c3 := Lib.hid (cS.out K)
    rw [show listS (W : Int) (digL W n (K : Int)) = swL (cellOf (digL W n (K : Int))) W n by unfold listS; rw [if_pos hIK.valid, hIK.hl, Int.toNat_natCast]] at c3
    have hfd := hfb.out K
    obtain ⟨ls, hls⟩ : ∃ l, (swL (cellOf (digL W n (K : Int))) W n).length = l := ⟨_, rfl⟩
    rw [hls] at hsu
    unfold GivesO at c3
    rw [hls] at c3
    obtain ⟨fd, hfd0⟩ : ∃ f, farL xs (digL W n (K : Int)) W n = f := ⟨_, rfl⟩
    rw [hfd0] at hsu c2
    have hfd1 : 0 ≤ fd ∧ fd ≤ 36 := by rw [← hfd0]; exact hfd
    obtain ⟨S, hS⟩ : ∃ S, stepsF xs W n 12 K = S := ⟨_, rfl⟩
    rw [hS] at hsu ⊢
    generalize digL W n (K : Int) = L at *
    replace hls := Lib.hid hls
    replace hfd0 := Lib.hid hfd0
    replace hS := Lib.hid hS
    replace hsu := Lib.hid hsu
    replace hIK := Lib.hid hIK
    clear hfd
    by_cases hlt : K < PP
    case pos =>
      go_wp2_with fail
      refine (cp.out _).mono ?_
      rintro e v11 ⟨rfl, rfl⟩
      go_wp2_with fail
      refine (c1.out _).mono ?_
      rintro e v12 ⟨⟨gk, rfl, ho⟩, hb⟩
      have szv12 := hb.size
      replace x0 := kept hb (block_lt x0) x0
      replace x1 := kept hb (block_lt x1) x1
      replace r := Lib.hid (r.out.bel hb)
      replace bb := Lib.hid (bb.out.trans (hb.mono bb.out.size))
      have o := Lib.hid ho.row
      clear ho hb c1
      obtain ⟨B, hB⟩ : ∃ B, v12.heap.size = B := ⟨_, rfl⟩
      obtain ⟨U0, hU0⟩ : ∃ U0, v12.alloc (.cells #[.int .i64 W, .slice (some ⟨gk, 0, none⟩) n n] 25) = U0 := ⟨_, rfl⟩
      have hb : Below v12.heap.size v12 U0 := by rw [← hU0]; exact (Below.refl _ _).alloc (Nat.le_refl _) _
      have o0 : U0.cell? ⟨B, 0, none⟩ = some (.int .i64 W) := by rw [← hU0, ← hB]; simp
      have o1 : U0.cell? ⟨B, 1, none⟩ = some (.slice (some ⟨gk, 0, none⟩) n n) := by rw [← hU0, ← hB]; simp
      have szU0 := hb.size
      replace x0 := kept hb (block_lt x0) x0
      replace x1 := kept hb (block_lt x1) x1
      replace r := Lib.hid (r.out.bel hb)
      replace o := Lib.hid (o.out.bel hb)
      replace bb := Lib.hid (bb.out.trans (hb.mono bb.out.size))
      clear hb
      go_upto_region 8 with fail
      (try rw [hU0])
      (try rw [hB])
      clear hU0 szU0
      go_wp2_with fail
      refine (c2.out _ _ _ r.out o.out).mono ?_
      rintro e v13 ⟨rfl, hb⟩
      have szv13 := hb.size
      replace x0 := kept hb (block_lt x0) x0
      replace x1 := kept hb (block_lt x1) x1
      replace o0 := kept hb (block_lt o0) o0
      replace o1 := kept hb (block_lt o1) o1
      replace r := Lib.hid (r.out.bel hb)
      replace o := Lib.hid (o.out.bel hb)
      replace bb := Lib.hid (bb.out.trans (hb.mono bb.out.size))
      clear hb
      by_cases hfs : fd < S
      case neg =>
        have e1 : (if fd < S ∧ ls = 0 then fd else S) = S := if_neg (fun e => hfs e.1)
        rw [e1] at hsu
        go_wp2_with fail
        exact ⟨⟨K + 1, by omega, by go_num, by rw [hsu.out], x0, x1, r, bb⟩, by simp [intOf]; omega⟩
      go_wp2_with fail
      refine (c3.out _ _ _ o.out).mono ?_
      rintro e v14 ⟨⟨sl, cl, rfl, ho⟩, hb⟩
      have szv14 := hb.size
      replace x0 := kept hb (block_lt x0) x0
      replace x1 := kept hb (block_lt x1) x1
      replace o0 := kept hb (block_lt o0) o0
      replace o1 := kept hb (block_lt o1) o1
      replace r := Lib.hid (r.out.bel hb)
      replace o := Lib.hid (o.out.bel hb)
      replace bb := Lib.hid (bb.out.trans (hb.mono bb.out.size))
      clear ho
      clear hb
      by_cases hl0 : ls = 0
      case pos =>
        subst hl0
        have e1 : (if fd < S ∧ (0 : Nat) = 0 then fd else S) = fd := if_pos ⟨hfs, rfl⟩
        rw [e1] at hsu
        go_wp2_with fail
        exact ⟨⟨K + 1, by omega, by go_num, by rw [hsu.out], x0, x1, r, bb⟩, by simp [intOf]; omega⟩
      have e1 : (if fd < S ∧ ls = 0 then fd else S) = S := if_neg (fun e => hl0 e.2)
      rw [e1] at hsu
      have hl1 : ((ls : Int) == 0) = false := by rw [beq_eq_false_iff_ne]; omega
      go_wp2_with fail
      exact ⟨⟨K + 1, by omega, by go_num, by rw [hsu.out], x0, x1, r, bb⟩, by simp [intOf]; omega⟩
    obtain rfl : PP = K := by omega
    go_wp2_with fail
    refine (cp.out _).mono ?_
    rintro e v30 ⟨rfl, rfl⟩
    go_wp2_with fail
    go_ret
    exact ⟨by rw [hS.out]; rfl, bb.out⟩
end Go.Proofs.Ytnhcknbbkmaiiaa

