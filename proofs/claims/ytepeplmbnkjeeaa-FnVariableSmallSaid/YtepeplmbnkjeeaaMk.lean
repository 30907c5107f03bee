/-
  The contract of the program's CellFlip.
-/
import Derived.Test.YtepeplmbnkjeeaaMj
namespace Go.Proofs.Ytepeplmbnkjeeaa
set_option maxRecDepth 100000
open Go.RowKit

set_option maxHeartbeats 4000000 in
theorem flip_impl (W : Int) (a : Option Addr) (n cap : Nat) (xs : List Int) (i j : Int) (w : World) (h : Row w a n xs) (hm : n ≤ 9223372036854775807) :
    Calls Try.prog 32 #[.agg #[.int .i64 W, .slice a n cap], .int .i64 i, .int .i64 j] w (Gives w (flipO W xs i j)) := by
  have hl := h.1
  obtain ⟨W0, hW0⟩ : ∃ W0, W0 = ((w.alloc (.cells #[.int .i64 W, .slice a n cap] 25)).alloc (.cells #[.int .i64 0, .slice none 0 0] 25)) := ⟨_, rfl⟩
  have bb : Hid (Below w.heap.size w W0) := by subst hW0; exact ((Below.refl _ _).alloc (Nat.le_refl _) _).alloc (by simp) _
  have x0 : W0.cell? ⟨w.heap.size, 0, none⟩ = some (.int .i64 W) := by subst hW0; go_simp
  have x1 : W0.cell? ⟨w.heap.size, 1, none⟩ = some (.slice a n cap) := by subst hW0; go_simp
  have y0 : W0.cell? ⟨w.heap.size + 1, 0, none⟩ = some (.int .i64 0) := by subst hW0; go_simp
  have y1 : W0.cell? ⟨w.heap.size + 1, 1, none⟩ = some (.slice none 0 0) := by subst hW0; go_simp
  have yf : ∀ o, W0.frozen? ⟨w.heap.size + 1, o, none⟩ = false := fun o => by subst hW0; go_simp
  have r := Lib.hid (h.bel bb.out)
  have rb := Lib.hid (row_lt h)
  clear h
  have l0 := block_lt y0
  simp only at l0
  have hvs := Lib.hid (fun wx hx => var_impl W a n cap xs i j wx hx hm)
  by_cases hv : varO W xs i j = true
  case neg =>
    rw [show flipO W xs i j = .no from if_neg hv]
    have hv : varO W xs i j = false := by simpa using hv
    clear hl
    go_enter Try.func32, Try.ntmps32
    go_wp2_with fail
    rw [← hW0]
    clear hW0
    refine (hvs.out _ r.out).mono ?_
    rintro e v1 ⟨rfl, hb⟩
    have szv1 := hb.size
    replace yf : ∀ o, v1.frozen? ⟨w.heap.size + 1, o, none⟩ = false := fun o => (hb.frozen (p := ⟨w.heap.size + 1, o, none⟩) (show w.heap.size + 1 < _ from block_lt y0)).trans (yf o)
    replace x0 := kept hb (block_lt x0) x0
    replace x1 := kept hb (block_lt x1) x1
    replace y0 := kept hb (block_lt y0) y0
    replace y1 := kept hb (block_lt y1) y1
    replace r := Lib.hid (r.out.bel hb)
    replace bb := Lib.hid (bb.out.trans (hb.mono bb.out.size))
    rw [hv]
    clear hb
    go_wp2_with fail
    refine bodyPost_ret (v := .tuple #[.agg #[.int .i64 0, .slice none 0 0], .bool false]) (by simp [results, Try.results32, go_sem, y0, y1]) rfl ?_
    exact ⟨⟨none, 0, rfl, own_nil _ _⟩, (bb.out.setCell (by simp) _).setCell (by simp) _⟩
  rw [show flipO W xs i j = ⟨true, W, flipL xs W.toNat xs.length i.toNat j.toNat⟩ from if_pos hv]
  obtain ⟨W, i, j, rfl, rfl, rfl, hI, hi, hj, hvb⟩ := varO_im hl hv
  rw [Int.toNat_natCast, Int.toNat_natCast, Int.toNat_natCast, hl]
  have hw6 := hI.w6
  have hw1 := hI.w1
  have hn6 := hI.l6
  have hn1 := hI.l1
  obtain ⟨rk, hrk, hf0⟩ := flip_at0 hI hi hj hvb
  have hfl : (flipL xs W n i j).length = n := (flip_all hI hi hj hvb).1.hl
  have hlt := ends_lt (xs := xs) hi hj
  have hes := fun h => ends_set (xs := xs) (n := n) (i := i) (j := j) h
  have hen := fun h => ends_not (xs := xs) (n := n) (i := i) (j := j) h
  have hhas := Lib.hid (fun wx hx => has_impl (W : Int) a n cap xs i j wx hx hm)
  rw [hI.has hi hj, bit_one] at hhas
  have hA := arrs_all hI
  have harr := Lib.hid (fun wx hx => arrows_any W a n cap xs wx hx hI)
  have hstep := Lib.hid (fun (fu : Nat) (ys : List Int) (p : Nat) (h : FlipAt xs W n i j rk fu ys p) (hne : p ≠ fromP xs n i j) => h.step hrk hi hj hne)
  have hdone := Lib.hid (fun (fu : Nat) (ys : List Int) (h : FlipAt xs W n i j rk fu ys (fromP xs n i j)) => h.done)
  have hFim := Lib.hid (fun (fu : Nat) (ys : List Int) (p : Nat) (h : FlipAt xs W n i j rk fu ys p) => (⟨h.im, h.lt⟩ : Im W n ys ∧ p < n + W))
  have hsrc := fun b c ms wx hx (hB : Arrs ms (arC (cellOf xs) n) (n + W)) => sources_any b (n + W) c ms _ (fromP xs n i j) wx hx hB (by omega) (by omega) hlt.1
  have hQ : bfsP (arC (cellOf xs) n) (n + W) (fromP xs n i j) = parP xs W n (fromP xs n i j) := rfl
  rw [hQ] at hsrc
  replace hsrc := Lib.hid (fun b c wx hx => hsrc b c _ wx hx hA)
  obtain ⟨FA, hFA⟩ : ∃ FA : Nat → List Int → Nat → Prop, FA = FlipAt xs W n i j rk := ⟨_, rfl⟩
  rw [← hFA] at hf0 hstep hdone hFim
  clear hFA hQ hA
  generalize fromP xs n i j = f at *
  generalize toP xs n i j = t at *
  generalize hPP : parP xs W n f = Q at *
  generalize flipL xs W n i j = Z at *
  generalize rowsL (arrK xs n n n 0) (n + W) = ms at *
  obtain ⟨M, hM⟩ : ∃ M, n + W = M := ⟨_, rfl⟩
  obtain ⟨u, hu⟩ : ∃ u, n + j = u := ⟨_, rfl⟩
  rw [hM] at hlt hFim harr hsrc
  rw [hu] at hes hen
  have eu : (n : Int) + (j : Int) = (u : Int) := by omega
  have ewu : IntKind.i64.wrap (u : Int) = (u : Int) := IntWalk.i64_in _ ⟨by omega, by omega⟩
  have hM12 : M ≤ 12 := by omega
  replace hM := Lib.hid hM
  replace hf0 := Lib.hid hf0
  replace hPP := Lib.hid hPP
  replace hfl := Lib.hid hfl
  replace hI := Lib.hid hI
  clear hrk
  go_enter Try.func32, Try.ntmps32
  go_wp2_with fail
  rw [← hW0]
  clear hW0
  refine (hvs.out _ r.out).mono ?_
  rintro e v2 ⟨rfl, hb⟩
  have szv2 := hb.size
  replace yf : ∀ o, v2.frozen? ⟨w.heap.size + 1, o, none⟩ = false := fun o => (hb.frozen (p := ⟨w.heap.size + 1, o, none⟩) (show w.heap.size + 1 < _ from block_lt y0)).trans (yf o)
  replace x0 := kept hb (block_lt x0) x0
  replace x1 := kept hb (block_lt x1) x1
  replace y0 := kept hb (block_lt y0) y0
  replace y1 := kept hb (block_lt y1) y1
  replace r := Lib.hid (r.out.bel hb)
  replace bb := Lib.hid (bb.out.trans (hb.mono bb.out.size))
  rw [hv]
  clear hb
  go_wp2_with fail
  go_quiet (fail)
  have hb : Below v2.heap.size v2 (v2.drewN nq) := below_drewN (Below.refl _ _) nq
  have szq := hb.size
  replace yf : ∀ o, (v2.drewN nq).frozen? ⟨w.heap.size + 1, o, none⟩ = false := fun o => (hb.frozen (p := ⟨w.heap.size + 1, o, none⟩) (show w.heap.size + 1 < _ from block_lt y0)).trans (yf o)
  replace x0 := kept hb (block_lt x0) x0
  replace x1 := kept hb (block_lt x1) x1
  replace y0 := kept hb (block_lt y0) y0
  replace y1 := kept hb (block_lt y1) y1
  replace r := Lib.hid (r.out.bel hb)
  replace bb := Lib.hid (bb.out.trans (hb.mono bb.out.size))
  clear hb szq
  generalize hwq : v2.drewN nq = q0 at *
  clear hwq
  go_wp2_with fail
  refine (hhas.out _ r.out).mono ?_
  rintro e v4 ⟨rfl, hb⟩
  have szv4 := hb.size
  replace yf : ∀ o, v4.frozen? ⟨w.heap.size + 1, o, none⟩ = false := fun o => (hb.frozen (p := ⟨w.heap.size + 1, o, none⟩) (show w.heap.size + 1 < _ from block_lt y0)).trans (yf o)
  replace x0 := kept hb (block_lt x0) x0
  replace x1 := kept hb (block_lt x1) x1
  replace y0 := kept hb (block_lt y0) y0
  replace y1 := kept hb (block_lt y1) y1
  replace r := Lib.hid (r.out.bel hb)
  replace bb := Lib.hid (bb.out.trans (hb.mono bb.out.size))
  clear hb
  cases hcb : cellOf xs i j with
  | true =>
    obtain ⟨ef, et⟩ := hes hcb
    replace ef := ef.symm
    replace et := et.symm
    subst ef
    subst et
    clear hes hen hcb hhas hvs
    replace hu := Lib.hid hu
    go_wp2_with fail
    refine (icopy_any (W : Int) a n cap xs _ r.out hn1 (by omega)).mono ?_
    rintro e v5 ⟨⟨ac, c2, rfl, ho⟩, hb⟩
    have szv5 := hb.size
    replace yf : ∀ o, v5.frozen? ⟨w.heap.size + 1, o, none⟩ = false := fun o => (hb.frozen (p := ⟨w.heap.size + 1, o, none⟩) (show w.heap.size + 1 < _ from block_lt y0)).trans (yf o)
    replace x0 := kept hb (block_lt x0) x0
    replace x1 := kept hb (block_lt x1) x1
    have y0o := y0
    replace y0 := kept hb (block_lt y0) y0
    replace y1 := kept hb (block_lt y1) y1
    replace r := Lib.hid (r.out.bel hb)
    replace bb := Lib.hid (bb.out.trans (hb.mono bb.out.size))
    obtain ⟨g2, rfl, og2, og3⟩ : ∃ g, ac = some ⟨g, 0, none⟩ ∧ v4.heap.size ≤ g ∧ g < v5.heap.size := by
      rcases ho.cases with ⟨_, h, _⟩ | ⟨g, h1, h2, h3⟩
      · omega
      · exact ⟨g, h1, h2, h3⟩
    have l5 : w.heap.size + 2 ≤ v4.heap.size := block_lt (show v4.cell? ⟨w.heap.size + 1, 0, none⟩ = _ from y0o)
    replace ho := Lib.hid (OwnI.mono ho (B' := w.heap.size + 2) l5)
    clear hb
    clear y0o
    obtain ⟨B, hB⟩ : ∃ B, v5.heap.size = B := ⟨_, rfl⟩
    obtain ⟨U0, hU0⟩ : ∃ U0, v5.alloc (.cells #[.int .i64 W, .slice (some ⟨g2, 0, none⟩) n c2] 25) = U0 := ⟨_, rfl⟩
    have hb : Below v5.heap.size v5 U0 := by rw [← hU0]; exact (Below.refl _ _).alloc (Nat.le_refl _) _
    have o0 : U0.cell? ⟨B, 0, none⟩ = some (.int .i64 W) := by rw [← hU0, ← hB]; simp
    have o1 : U0.cell? ⟨B, 1, none⟩ = some (.slice (some ⟨g2, 0, none⟩) n c2) := by rw [← hU0, ← hB]; simp
    have szU0 := hb.size
    replace yf : ∀ o, U0.frozen? ⟨w.heap.size + 1, o, none⟩ = false := fun o => (hb.frozen (p := ⟨w.heap.size + 1, o, none⟩) (show w.heap.size + 1 < _ from block_lt y0)).trans (yf o)
    replace x0 := kept hb (block_lt x0) x0
    replace x1 := kept hb (block_lt x1) x1
    replace y0 := kept hb (block_lt y0) y0
    replace y1 := kept hb (block_lt y1) y1
    replace r := Lib.hid (r.out.bel hb)
    replace ho := Lib.hid (ho.out.bel hb)
    replace bb := Lib.hid (bb.out.trans (hb.mono bb.out.size))
    clear hb
    have hgB : g2 < B := by omega
    have hg2w : w.heap.size + 2 ≤ g2 := by omega
    go_upto_region 7 with fail
    (try rw [hU0])
    (try rw [hB])
    have lB : B < U0.heap.size := block_lt o0
    have lz : w.heap.size + 1 < U0.heap.size := block_lt y0
    clear hU0 szU0
    go_wp2_with fail
    refine (tog_impl W _ g2 n c2 xs i u i j _ ho.out hI.out (.inl ⟨rfl, hu.out.symm⟩) hi hj).mono ?_
    rintro e V0 ⟨rfl, hG, hO⟩
    replace x0 := hG.cell x0 (by simp; omega)
    replace x1 := hG.cell x1 (by simp; omega)
    replace o0 := hG.cell o0 (by simp; omega)
    replace o1 := hG.cell o1 (by simp; omega)
    replace yf : ∀ o, V0.frozen? ⟨w.heap.size + 1, o, none⟩ = false := fun o => (World.frozen?_of_block (a := ⟨w.heap.size + 1, o, none⟩) (hG.block (w.heap.size + 1) lz (by simp; omega))).trans (yf o)
    replace y0 := hG.cell y0 (by simp; omega)
    replace y1 := hG.cell y1 (by simp; omega)
    replace r := Lib.hid (r.out.apart hG (fun b off e hn => by have := rb.out b off e hn; simp; omega))
    replace bb := Lib.hid (bb.out.trans ((grown_below hG).mono (by omega)))
    replace hO := Lib.hid hO
    have og4 : g2 < V0.heap.size := (rng_own hO.out _ rfl).2
    clear hG ho
    go_wp2_with fail
    refine (harr.out _ r.out).mono ?_
    rintro e v6 ⟨⟨g3, rfl, ho⟩, hb⟩
    have szv6 := hb.size
    replace yf : ∀ o, v6.frozen? ⟨w.heap.size + 1, o, none⟩ = false := fun o => (hb.frozen (p := ⟨w.heap.size + 1, o, none⟩) (show w.heap.size + 1 < _ from block_lt y0)).trans (yf o)
    replace x0 := kept hb (block_lt x0) x0
    replace x1 := kept hb (block_lt x1) x1
    replace y0 := kept hb (block_lt y0) y0
    replace y1 := kept hb (block_lt y1) y1
    replace o0 := kept hb (block_lt o0) o0
    replace o1 := kept hb (block_lt o1) o1
    replace r := Lib.hid (r.out.bel hb)
    replace hO := Lib.hid (hO.out.bel hb)
    replace bb := Lib.hid (bb.out.trans (hb.mono bb.out.size))
    have rm := Lib.hid ho.row
    clear ho
    clear hb
    go_wp2_with fail
    refine (hsrc.out _ _ _ rm.out).mono ?_
    rintro e v7 ⟨⟨g1, rfl, ho⟩, hb⟩
    have szv7 := hb.size
    replace yf : ∀ o, v7.frozen? ⟨w.heap.size + 1, o, none⟩ = false := fun o => (hb.frozen (p := ⟨w.heap.size + 1, o, none⟩) (show w.heap.size + 1 < _ from block_lt y0)).trans (yf o)
    replace x0 := kept hb (block_lt x0) x0
    replace x1 := kept hb (block_lt x1) x1
    replace y0 := kept hb (block_lt y0) y0
    replace y1 := kept hb (block_lt y1) y1
    replace o0 := kept hb (block_lt o0) o0
    replace o1 := kept hb (block_lt o1) o1
    replace r := Lib.hid (r.out.bel hb)
    replace rm := Lib.hid (rm.out.bel hb)
    replace hO := Lib.hid (hO.out.bel hb)
    replace bb := Lib.hid (bb.out.trans (hb.mono bb.out.size))
    have qr := Lib.hid ho.row
    have lq : v6.heap.size ≤ g1 := (rng_own ho _ rfl).1
    clear ho
    clear hb
    have lg2 : g2 < v6.heap.size := by have := szv6; omega
    have hgq : g1 ≠ g2 := by omega
    have lU : w.heap.size + 1 < v7.heap.size := block_lt y0
    have bU := bb.out.size
    clear rm harr hsrc
    go_wp2_with fail
    go_loopw [12] (fun v wr => ∃ (p fu : Nat) (ys : List Int), v = .int .i64 p ∧ Hid (FA fu ys p) ∧ Hid (v7.grownBy wr (some g2)) ∧ Hid (OwnI wr (w.heap.size + 2) (some ⟨g2, 0, none⟩) n c2 ys)) (fun v _ => rk (intOf v).toNat)
    case atStart => exact ⟨i, _, _, rfl, hf0, World.grownBy.refl _ _, hO⟩
    case round =>
      clear hf0 hO
      obtain ⟨p, fu, ys, rfl, hFA, hG, hO⟩ := hrel
      obtain ⟨wo, rfl⟩ : ∃ wo : World, wo = wr := ⟨_, rfl⟩
      have q0 := hG.out.cell o0 (by simp; omega)
      have q1 := hG.out.cell o1 (by simp; omega)
      have rq := qr.out.apart hG.out (fun b off e hn => by cases e; simp; omega)
      by_cases hpf : p = u
      case pos =>
        subst hpf
        have hd := hdone.out _ _ hFA.out
        have u0 := hG.out.cell y0 (by simp; omega)
        have u1 := hG.out.cell y1 (by simp; omega)
        have uf : ∀ o, wo.frozen? ⟨w.heap.size + 1, o, none⟩ = false := fun o => (World.frozen?_of_block (a := ⟨w.heap.size + 1, o, none⟩) (hG.out.block (w.heap.size + 1) (by omega) (by simp; omega))).trans (yf o)
        have bG : Below w.heap.size w wo := bb.out.trans ((grown_below hG.out).mono (by omega))
        replace bG := Lib.hid bG
        rw [← hd] at hO
        clear hd rq
        go_wp2_with fail
        refine bodyPost_ret (v := .tuple #[.agg #[.int .i64 W, .slice (some ⟨g2, 0, none⟩) n c2], .bool true]) (by simp [results, Try.results32, go_sem, u0, u1]) rfl ?_
        refine ⟨⟨some ⟨g2, 0, none⟩, c2, by rw [hfl.out], ?_⟩, (bG.out.setCell (by simp) _).setCell (by simp) _⟩
        rw [show (Out.mk true (W : Int) Z).xs.length = n from hfl.out]
        exact ((hO.out.store (show w.heap.size + 1 < w.heap.size + 2 by omega) _).store (show w.heap.size + 1 < w.heap.size + 2 by omega) _).mono (by omega)
      have hFi := hFim.out _ _ _ hFA.out
      obtain ⟨q, g, k, l, eq, _, hrk, hkl, hk, hll, hn⟩ := hstep.out _ _ _ hFA.out hpf
      obtain ⟨gq, oq, e, cq⟩ := row_at rq hFi.2
      cases e
      rw [eq, Nat.zero_add] at cq
      have e1 : ((p : Int) == (u : Int)) = false := by rw [beq_eq_false_iff_ne]; omega
      have e2 : ((p : Int) != (u : Int)) = true := by rw [bne_iff_ne]; omega
      have hs := hO.out.bel ((Below.refl _ _).drew)
      obtain ⟨W2, hW2⟩ : ∃ W2, wo.drew = W2 := ⟨_, rfl⟩
      rw [hW2] at hs
      have hb2 : Below wo.heap.size wo W2 := by rw [← hW2]; exact (Below.refl _ _).drew
      replace q0 := kept hb2 (block_lt q0) q0
      replace q1 := kept hb2 (block_lt q1) q1
      have cq2 := kept hb2 (block_lt cq) cq
      have hG2 := Lib.hid (grown_trans hG.out (below_grown hb2 (some g2)))
      have hpp := hFi.2
      replace hFi := Lib.hid hFi
      replace hkl := Lib.hid hkl
      replace hn := Lib.hid hn
      replace hs := Lib.hid hs
      clear hG hO rq hFA hb2
      go_wp2_with fail
      refine region_tail 6 (by kernel_rfl) (by kernel_rfl) W2 hW2 ?_
      simp only [List.take_succ_cons, List.take_zero, List.drop_succ_cons, List.drop_zero]
      clear hW2 cq
      repeat still_step
      refine wpStill_nil ?_
      go_wp2_with fail
      refine (tog_impl W _ g2 n c2 ys q p k l _ hs.out hFi.out.1 hkl.out hk hll).mono ?_
      rintro e V1 ⟨rfl, hG3, hO3⟩
      have cq3 := hG3.cell cq2 (by simp; omega)
      have hG4 := Lib.hid (grown_trans hG2.out hG3)
      replace hO3 := Lib.hid hO3
      clear hG3 hG2 hs cq2 q0 q1
      go_wp2_with fail
      exact ⟨⟨q, _, _, rfl, hn, hG4, hO3⟩, by simpa [intOf] using hrk⟩
  | false =>
    obtain ⟨ef, et⟩ := hen hcb
    replace ef := ef.symm
    replace et := et.symm
    subst ef
    subst et
    clear hes hen hcb hhas hvs
    replace hu := Lib.hid hu
    go_wp2_with fail
    refine (icopy_any (W : Int) a n cap xs _ r.out hn1 (by omega)).mono ?_
    rintro e v8 ⟨⟨ac, c2, rfl, ho⟩, hb⟩
    have szv8 := hb.size
    replace yf : ∀ o, v8.frozen? ⟨w.heap.size + 1, o, none⟩ = false := fun o => (hb.frozen (p := ⟨w.heap.size + 1, o, none⟩) (show w.heap.size + 1 < _ from block_lt y0)).trans (yf o)
    replace x0 := kept hb (block_lt x0) x0
    replace x1 := kept hb (block_lt x1) x1
    have y0o := y0
    replace y0 := kept hb (block_lt y0) y0
    replace y1 := kept hb (block_lt y1) y1
    replace r := Lib.hid (r.out.bel hb)
    replace bb := Lib.hid (bb.out.trans (hb.mono bb.out.size))
    obtain ⟨g2, rfl, og2, og3⟩ : ∃ g, ac = some ⟨g, 0, none⟩ ∧ v4.heap.size ≤ g ∧ g < v8.heap.size := by
      rcases ho.cases with ⟨_, h, _⟩ | ⟨g, h1, h2, h3⟩
      · omega
      · exact ⟨g, h1, h2, h3⟩
    have l5 : w.heap.size + 2 ≤ v4.heap.size := block_lt (show v4.cell? ⟨w.heap.size + 1, 0, none⟩ = _ from y0o)
    replace ho := Lib.hid (OwnI.mono ho (B' := w.heap.size + 2) l5)
    clear hb
    clear y0o
    obtain ⟨B, hB⟩ : ∃ B, v8.heap.size = B := ⟨_, rfl⟩
    obtain ⟨U0, hU0⟩ : ∃ U0, v8.alloc (.cells #[.int .i64 W, .slice (some ⟨g2, 0, none⟩) n c2] 25) = U0 := ⟨_, rfl⟩
    have hb : Below v8.heap.size v8 U0 := by rw [← hU0]; exact (Below.refl _ _).alloc (Nat.le_refl _) _
    have o0 : U0.cell? ⟨B, 0, none⟩ = some (.int .i64 W) := by rw [← hU0, ← hB]; simp
    have o1 : U0.cell? ⟨B, 1, none⟩ = some (.slice (some ⟨g2, 0, none⟩) n c2) := by rw [← hU0, ← hB]; simp
    have szU0 := hb.size
    replace yf : ∀ o, U0.frozen? ⟨w.heap.size + 1, o, none⟩ = false := fun o => (hb.frozen (p := ⟨w.heap.size + 1, o, none⟩) (show w.heap.size + 1 < _ from block_lt y0)).trans (yf o)
    replace x0 := kept hb (block_lt x0) x0
    replace x1 := kept hb (block_lt x1) x1
    replace y0 := kept hb (block_lt y0) y0
    replace y1 := kept hb (block_lt y1) y1
    replace r := Lib.hid (r.out.bel hb)
    replace ho := Lib.hid (ho.out.bel hb)
    replace bb := Lib.hid (bb.out.trans (hb.mono bb.out.size))
    clear hb
    have hgB : g2 < B := by omega
    have hg2w : w.heap.size + 2 ≤ g2 := by omega
    go_upto_region 7 with fail
    (try rw [hU0])
    (try rw [hB])
    have lB : B < U0.heap.size := block_lt o0
    have lz : w.heap.size + 1 < U0.heap.size := block_lt y0
    clear hU0 szU0
    go_wp2_with fail
    refine (tog_impl W _ g2 n c2 xs u i i j _ ho.out hI.out (.inr ⟨rfl, hu.out.symm⟩) hi hj).mono ?_
    rintro e V0 ⟨rfl, hG, hO⟩
    replace x0 := hG.cell x0 (by simp; omega)
    replace x1 := hG.cell x1 (by simp; omega)
    replace o0 := hG.cell o0 (by simp; omega)
    replace o1 := hG.cell o1 (by simp; omega)
    replace yf : ∀ o, V0.frozen? ⟨w.heap.size + 1, o, none⟩ = false := fun o => (World.frozen?_of_block (a := ⟨w.heap.size + 1, o, none⟩) (hG.block (w.heap.size + 1) lz (by simp; omega))).trans (yf o)
    replace y0 := hG.cell y0 (by simp; omega)
    replace y1 := hG.cell y1 (by simp; omega)
    replace r := Lib.hid (r.out.apart hG (fun b off e hn => by have := rb.out b off e hn; simp; omega))
    replace bb := Lib.hid (bb.out.trans ((grown_below hG).mono (by omega)))
    replace hO := Lib.hid hO
    have og4 : g2 < V0.heap.size := (rng_own hO.out _ rfl).2
    clear hG ho
    go_wp2_with fail
    refine (harr.out _ r.out).mono ?_
    rintro e v9 ⟨⟨g3, rfl, ho⟩, hb⟩
    have szv9 := hb.size
    replace yf : ∀ o, v9.frozen? ⟨w.heap.size + 1, o, none⟩ = false := fun o => (hb.frozen (p := ⟨w.heap.size + 1, o, none⟩) (show w.heap.size + 1 < _ from block_lt y0)).trans (yf o)
    replace x0 := kept hb (block_lt x0) x0
    replace x1 := kept hb (block_lt x1) x1
    replace y0 := kept hb (block_lt y0) y0
    replace y1 := kept hb (block_lt y1) y1
    replace o0 := kept hb (block_lt o0) o0
    replace o1 := kept hb (block_lt o1) o1
    replace r := Lib.hid (r.out.bel hb)
    replace hO := Lib.hid (hO.out.bel hb)
    replace bb := Lib.hid (bb.out.trans (hb.mono bb.out.size))
    have rm := Lib.hid ho.row
    clear ho
    clear hb
    go_wp2_with fail
    refine (hsrc.out _ _ _ rm.out).mono ?_
    rintro e v10 ⟨⟨g1, rfl, ho⟩, hb⟩
    have szv10 := hb.size
    replace yf : ∀ o, v10.frozen? ⟨w.heap.size + 1, o, none⟩ = false := fun o => (hb.frozen (p := ⟨w.heap.size + 1, o, none⟩) (show w.heap.size + 1 < _ from block_lt y0)).trans (yf o)
    replace x0 := kept hb (block_lt x0) x0
    replace x1 := kept hb (block_lt x1) x1
    replace y0 := kept hb (block_lt y0) y0
    replace y1 := kept hb (block_lt y1) y1
    replace o0 := kept hb (block_lt o0) o0
    replace o1 := kept hb (block_lt o1) o1
    replace r := Lib.hid (r.out.bel hb)
    replace rm := Lib.hid (rm.out.bel hb)
    replace hO := Lib.hid (hO.out.bel hb)
    replace bb := Lib.hid (bb.out.trans (hb.mono bb.out.size))
    have qr := Lib.hid ho.row
    have lq : v9.heap.size ≤ g1 := (rng_own ho _ rfl).1
    clear ho
    clear hb
    have lg2 : g2 < v9.heap.size := by have := szv9; omega
    have hgq : g1 ≠ g2 := by omega
    have lU : w.heap.size + 1 < v10.heap.size := block_lt y0
    have bU := bb.out.size
    clear rm harr hsrc
    go_wp2_with fail
    go_loopw [12] (fun v wr => ∃ (p fu : Nat) (ys : List Int), v = .int .i64 p ∧ Hid (FA fu ys p) ∧ Hid (v10.grownBy wr (some g2)) ∧ Hid (OwnI wr (w.heap.size + 2) (some ⟨g2, 0, none⟩) n c2 ys)) (fun v _ => rk (intOf v).toNat)
    case atStart => exact ⟨u, _, _, rfl, hf0, World.grownBy.refl _ _, hO⟩
    case round =>
      clear hf0 hO
      obtain ⟨p, fu, ys, rfl, hFA, hG, hO⟩ := hrel
      obtain ⟨wo, rfl⟩ : ∃ wo : World, wo = wr := ⟨_, rfl⟩
      have q0 := hG.out.cell o0 (by simp; omega)
      have q1 := hG.out.cell o1 (by simp; omega)
      have rq := qr.out.apart hG.out (fun b off e hn => by cases e; simp; omega)
      by_cases hpf : p = i
      case pos =>
        subst hpf
        have hd := hdone.out _ _ hFA.out
        have u0 := hG.out.cell y0 (by simp; omega)
        have u1 := hG.out.cell y1 (by simp; omega)
        have uf : ∀ o, wo.frozen? ⟨w.heap.size + 1, o, none⟩ = false := fun o => (World.frozen?_of_block (a := ⟨w.heap.size + 1, o, none⟩) (hG.out.block (w.heap.size + 1) (by omega) (by simp; omega))).trans (yf o)
        have bG : Below w.heap.size w wo := bb.out.trans ((grown_below hG.out).mono (by omega))
        replace bG := Lib.hid bG
        rw [← hd] at hO
        clear hd rq
        go_wp2_with fail
        refine bodyPost_ret (v := .tuple #[.agg #[.int .i64 W, .slice (some ⟨g2, 0, none⟩) n c2], .bool true]) (by simp [results, Try.results32, go_sem, u0, u1]) rfl ?_
        refine ⟨⟨some ⟨g2, 0, none⟩, c2, by rw [hfl.out], ?_⟩, (bG.out.setCell (by simp) _).setCell (by simp) _⟩
        rw [show (Out.mk true (W : Int) Z).xs.length = n from hfl.out]
        exact ((hO.out.store (show w.heap.size + 1 < w.heap.size + 2 by omega) _).store (show w.heap.size + 1 < w.heap.size + 2 by omega) _).mono (by omega)
      have hFi := hFim.out _ _ _ hFA.out
      obtain ⟨q, g, k, l, eq, _, hrk, hkl, hk, hll, hn⟩ := hstep.out _ _ _ hFA.out hpf
      obtain ⟨gq, oq, e, cq⟩ := row_at rq hFi.2
      cases e
      rw [eq, Nat.zero_add] at cq
      have e1 : ((p : Int) == (i : Int)) = false := by rw [beq_eq_false_iff_ne]; omega
      have e2 : ((p : Int) != (i : Int)) = true := by rw [bne_iff_ne]; omega
      have hs := hO.out.bel ((Below.refl _ _).drew)
      obtain ⟨W2, hW2⟩ : ∃ W2, wo.drew = W2 := ⟨_, rfl⟩
      rw [hW2] at hs
      have hb2 : Below wo.heap.size wo W2 := by rw [← hW2]; exact (Below.refl _ _).drew
      replace q0 := kept hb2 (block_lt q0) q0
      replace q1 := kept hb2 (block_lt q1) q1
      have cq2 := kept hb2 (block_lt cq) cq
      have hG2 := Lib.hid (grown_trans hG.out (below_grown hb2 (some g2)))
      have hpp := hFi.2
      replace hFi := Lib.hid hFi
      replace hkl := Lib.hid hkl
      replace hn := Lib.hid hn
      replace hs := Lib.hid hs
      clear hG hO rq hFA hb2
      go_wp2_with fail
      refine region_tail 6 (by kernel_rfl) (by kernel_rfl) W2 hW2 ?_
      simp only [List.take_succ_cons, List.take_zero, List.drop_succ_cons, List.drop_zero]
      clear hW2 cq
      repeat still_step
      refine wpStill_nil ?_
      go_wp2_with fail
      refine (tog_impl W _ g2 n c2 ys q p k l _ hs.out hFi.out.1 hkl.out hk hll).mono ?_
      rintro e V1 ⟨rfl, hG3, hO3⟩
      have cq3 := hG3.cell cq2 (by simp; omega)
      have hG4 := Lib.hid (grown_trans hG2.out hG3)
      replace hO3 := Lib.hid hO3
      clear hG3 hG2 hs cq2 q0 q1
      go_wp2_with fail
      exact ⟨⟨q, _, _, rfl, hn, hG4, hO3⟩, by simpa [intOf] using hrk⟩
end Go.Proofs.Ytepeplmbnkjeeaa

