/-
  The contracts of the laws' drawing functions that draw an image and a cell.
-/
import Derived.Test.YtcnmoodkmlahnaaZ
import Derived.Deep.RegionLaw
import Derived.Deep.DeepCutAuto
namespace Go.Proofs.Ytcnmoodkmlahnaa
open Go.RowKit

/-- What l91At leaves. -/
def DrawsA (w : World) (r : Nat) (a : Option Addr) (len cap : Nat) (zs : List Int) (p : Nat) (e : Ending) (w' : World) : Prop :=
  ∃ (W : Int) (s : Option Addr) (n cg : Nat) (xs : List Int) (i j : Int), e = .returned (.tuple #[.agg #[.int .i64 W, .slice s n cg], .int .i64 i, .int .i64 j]) ∧ Row w' s n xs ∧ (n ≤ 6 ∧ n ≤ cg) ∧ w.grownBy w' (some r) ∧ (∀ b off, s = some ⟨b, off, none⟩ → 0 < n → w.heap.size ≤ b) ∧ ∃ p', p' ≤ p + 40 ∧ Rd w' r a len cap zs p'

/-- The middle of the walk: the result's box, the image's box, the reader. -/
structure At (w wr : World) (kb r : Nat) (W : Int) (s : Option Addr) (n cg : Nat) (xs : List Int) (a : Option Addr) (len cap : Nat) (zs : List Int) (p : Nat) : Prop where
  zb : Box wr w.heap.size (.int .i64 0) (.slice none 0 0)
  bo : Box wr kb (.int .i64 W) (.slice s n cg)
  row : Row wr s n xs
  rd : Rd wr r a len cap zs p
  gr : w.grownBy wr (some r)
  src : ∀ b off, s = some ⟨b, off, none⟩ → 0 < n → w.heap.size < b
  hk : w.heap.size < kb
  hr : r < w.heap.size
  far : ∀ b off, a = some ⟨b, off, none⟩ → 0 < len → b < w.heap.size
theorem At.pick {w wr w1 : World} {kb r : Nat} {W : Int} {s : Option Addr} {n cg : Nat} {xs : List Int} {a : Option Addr} {len cap : Nat} {zs : List Int} {p p' : Nat} (h : At w wr kb r W s n cg xs a len cap zs p) (hr : Rd w1 r a len cap zs p') (hg : wr.grownBy w1 (some r)) : At w w1 kb r W s n cg xs a len cap zs p' := by
  have n1 := h.hr
  have n2 := h.hk
  exact ⟨h.zb.grown hg (by omega), h.bo.grown hg (by omega), h.row.apart hg (fun b off e hl => by have := h.src b off e hl; simp; omega), hr, grown_trans h.gr hg, h.src, h.hk, h.hr, h.far⟩
theorem At.bel {w wr w1 : World} {kb r : Nat} {W : Int} {s : Option Addr} {n cg : Nat} {xs : List Int} {a : Option Addr} {len cap : Nat} {zs : List Int} {p : Nat} (h : At w wr kb r W s n cg xs a len cap zs p) (hb : Below wr.heap.size wr w1) : At w w1 kb r W s n cg xs a len cap zs p :=
  ⟨h.zb.bel hb, h.bo.bel hb, h.row.bel hb, h.rd.bel hb, grown_trans h.gr (below_grown hb _), h.src, h.hk, h.hr, h.far⟩
theorem At.out {w wr : World} {kb r : Nat} {W : Int} {s : Option Addr} {n cg : Nat} {xs : List Int} {a : Option Addr} {len cap : Nat} {zs : List Int} {p p0 : Nat} {v0 v1 : Value} (h : At w wr kb r W s n cg xs a len cap zs p) (hn : n ≤ 6 ∧ n ≤ cg) (hp : p ≤ p0 + 40) (i j : Int) :
    DrawsA w r a len cap zs p0 (.returned (.tuple #[.agg #[.int .i64 W, .slice s n cg], .int .i64 i, .int .i64 j])) ((wr.setCell ⟨w.heap.size, 0, none⟩ v0).setCell ⟨w.heap.size, 1, none⟩ v1) := by
  have n1 := h.hr
  refine ⟨W, s, n, cg, xs, i, j, rfl, h.row.apart (grown_set (grown_set (World.grownBy.refl _ (some w.heap.size)))) (fun b off e hl => by have := h.src b off e hl; simp; omega), hn, grown_then h.gr (((Below.refl _ _).setCell (by simp) _).setCell (by simp) _), fun b off e hl => by have := h.src b off e hl; omega, p, hp, ?_⟩
  exact (h.rd.apart (grown_set (World.grownBy.refl _ _)) (by omega) (fun b off e hl => by have := h.far b off e hl; omega)).apart (grown_set (World.grownBy.refl _ _)) (by omega) (fun b off e hl => by have := h.far b off e hl; omega)

theorem DrawsA.bel {w w1 w2 : World} {r : Nat} {a : Option Addr} {len cap : Nat} {zs : List Int} {p : Nat} {e : Ending} (h : DrawsA w r a len cap zs p e w1) (hb : Below w1.heap.size w1 w2) : DrawsA w r a len cap zs p e w2 := by
  obtain ⟨W, s, n, cg, xs, i, j, rfl, h1, h2, h3, h4, q, h5, h6⟩ := h
  exact ⟨W, s, n, cg, xs, i, j, rfl, h1.bel hb, h2, grown_trans h3 (below_grown hb _), h4, q, h5, h6.bel hb⟩
theorem pickV_bd {w : World} {r : Nat} {a : Option Addr} {len cap : Nat} {zs : List Int} {p : Nat} {n : Int} (h : Rd w r a len cap zs p) (hp : p ≤ 100000) : 0 ≤ pickV zs len p n ∧ (pickV zs len p n < n ∨ pickV zs len p n = 0) := by
  unfold pickV
  by_cases h1 : n < 1
  · rw [if_pos h1]; omega
  by_cases h2 : len = 0
  · rw [if_neg h1, if_pos h2]; omega
  rw [if_neg h1, if_neg h2]
  by_cases h3 : p < len
  · rw [if_pos h3]
    exact ⟨Int.emod_nonneg _ (by omega), .inl (Int.emod_lt_of_pos _ (by omega))⟩
  rw [if_neg h3]
  have small := h.small
  rcases h.bys with h0 | ⟨b, off, _, hc⟩
  · exact absurd h0 h2
  obtain ⟨_, hx0, hx1⟩ := hc (p % len) (Nat.mod_lt _ (by omega))
  obtain ⟨_, hy0, hy1⟩ := hc ((p * 7 + 3) % len) (Nat.mod_lt _ (by omega))
  have hq : p / len ≤ p := Nat.div_le_self _ _
  generalize zs.getD (p % len) 0 = x at *
  generalize zs.getD ((p * 7 + 3) % len) 0 = y at *
  generalize p / len = d at *
  have b1 : 0 ≤ x * 131 + y * 1117 + (p : Int) * 29 + (d : Int) * 53 := by omega
  have b2 : x * 131 + y * 1117 + (p : Int) * 29 + (d : Int) * 53 ≤ 1000000000 := by omega
  have hxp := xor_pos b1 b2
  rw [Int.tmod_eq_emod_of_nonneg hxp]
  exact ⟨Int.emod_nonneg _ (by omega), .inl (Int.emod_lt_of_pos _ (by omega))⟩

set_option maxHeartbeats 1000000 in
theorem at_any (r : Nat) (a : Option Addr) (len cap : Nat) (zs : List Int) (p : Nat) (w : World) (h : Rd w r a len cap zs p) (hp : p ≤ 500) :
    Calls Try.prog 11 #[.pointer (some ⟨r, 0, none⟩), .int .i64 36] w (DrawsA w r a len cap zs p) := by
  have hrw : r < w.heap.size := block_lt h.c0
  have far := Lib.hid h.src
  have h0 := Lib.hid (h.bel ((Below.refl _ _).alloc (Nat.le_refl _) (.cells #[.int .i64 0, .slice none 0 0] 25)))
  clear h
  go_enter Try.func11, Try.ntmps11
  go_wp2_with fail
  refine (wrong_any r a len cap zs p _ h0.out (by omega)).mono ?_
  rintro e w1 ⟨W, s, n, cg, xs, rfl, hR, hn, hg1, hf, p1, hp1, hr1⟩
  have hR := hR.row
  have zb := Box.grown (wr := w.alloc (.cells #[.int .i64 0, .slice none 0 0] 25)) (b := w.heap.size) (v0 := .int .i64 0) (v1 := .slice none 0 0) ⟨by simp, by simp, fun o => by simp⟩ hg1 (by omega)
  have hs1 : w.heap.size < w1.heap.size := block_lt zb.c0
  have hA : At w (w1.alloc (.cells #[.int .i64 W, .slice s n cg] 25)) w1.heap.size r W s n cg xs a len cap zs p1 := by
    have hb := (Below.refl w1.heap.size w1).alloc (Nat.le_refl _) (.cells #[.int .i64 W, .slice s n cg] 25)
    exact ⟨zb.bel hb, ⟨by simp, by simp, fun o => by simp⟩, hR.bel hb, hr1.bel hb, grown_trans (grown_trans (below_grown ((Below.refl _ _).alloc (Nat.le_refl _) _) _) hg1) (below_grown hb _), fun b off e hl => by have := hf b off e hl; simp at this; omega, hs1, hrw, far.out⟩
  have hA := Lib.hid hA
  clear zb hg1 hf hr1 hR h0 far
  have hi3 : (n : Int) ≤ 6 := by omega
  go_upto_region 2 with fail
  go_cut [8] (fun s8 wx => ∃ (vi : Int) (q : Nat), s8 = .int .i64 vi ∧ q ≤ p + 21 ∧ Hid (At w wx w1.heap.size r W s n cg xs a len cap zs q))
  case first =>
    have y0 := hA.out.bo.c0
    have y1 := hA.out.bo.c1
    go_wp2_with fail
    all_goals
      refine (pick_any r a len cap zs p1 _ _ hA.out.rd (by omega) (by omega)).mono ?_
      rintro e w2 ⟨vi, rfl, _, _, hr2, hg2⟩
      have hA2 := Lib.hid (hA.out.pick hr2 hg2)
      clear hr2 hg2
      go_wp2_with fail
      go_meet
      exact ⟨_, _, rfl, by omega, hA2⟩
  case rest =>
    obtain ⟨vi, q2, rfl, hq2, hA2⟩ := hcut
    go_upto_region 3 with fail
    go_cut [9] (fun s9 wx => ∃ (vi : Int) (q : Nat), s9 = .int .i64 vi ∧ q ≤ p + 22 ∧ Hid (At w wx w1.heap.size r W s n cg xs a len cap zs q))
    case first =>
      have z0 := hA2.out.bo.c0
      have z1 := hA2.out.bo.c1
      go_wp2_with fail
      all_goals
        refine (pick_any r a len cap zs q2 _ _ hA2.out.rd (by omega) (by omega)).mono ?_
        rintro e w3 ⟨vj, rfl, _, _, hr3, hg3⟩
        have hA3 := Lib.hid (hA2.out.pick hr3 hg3)
        clear hr3 hg3
        go_wp2_with fail
        go_meet
        exact ⟨_, _, rfl, by omega, hA3⟩
    obtain ⟨vj, q3, rfl, hq3, hA3⟩ := hcut
    go_wp2_with fail
    refine (pick_any r a len cap zs q3 24 _ hA3.out.rd (by omega) (by omega)).mono ?_
    rintro e w4 ⟨v, rfl, hv0, hv1, hr4, hg4⟩
    have hA4 := Lib.hid (hA3.out.pick hr4 hg4)
    obtain ⟨q4, hq4⟩ : ∃ q4, q4 = q3 + 1 := ⟨_, rfl⟩
    rw [← hq4] at hA4
    clear hr4 hg4 hA3
    have z0 := hA4.out.bo.c0
    have z1 := hA4.out.bo.c1
    have k0 := hA4.out.zb.c0
    have k1 := hA4.out.zb.c1
    have kf := hA4.out.zb.fz
    by_cases e0 : v = 0
    · subst e0
      go_upto_region 6 with fail
      · skip
        obtain ⟨v2, hv2⟩ : ∃ v2, pickV zs len q4 2 = v2 := ⟨_, rfl⟩
        have hP := fun wx hx => pick_fn r a len cap zs q4 2 wx hx (by omega) (by omega)
        rw [hv2] at hP
        have hP := Lib.hid hP
        have hb2 : v2 = 0 ∨ v2 = 1 := by
          have h := pickV_bd (n := 2) hA4.out.rd (by omega)
          rw [hv2] at h
          omega
        have hAd := Lib.hid (hA4.out.bel (Below.refl _ _).drew)
        have hAl := Lib.hid (hA4.out.bel (((Below.refl _ _).alloc (Nat.le_refl _) (.cells #[.int .i64 (-1), .int .i64 (n : Int)] 3)).drew))
        clear z0 z1 k0 k1 kf hv2
        have z0 := hAd.out.bo.c0
        have z1 := hAd.out.bo.c1
        have y0 := hAl.out.bo.c0
        have y1 := hAl.out.bo.c1
        have hrlt : r < w4.heap.size := block_lt hA4.out.rd.c0
        rcases hb2 with e | e <;> subst e
        · skip
          go_region_law (first | ((go_simp; go_at_call 12; (with_reducible refine (hP.out _ hAd.out.rd).mono ?_); rintro e w5 ⟨rfl, _, _, hr5, hg5⟩; have hA5 := Lib.hid (hAd.out.pick hr5 hg5); clear hr5 hg5; have t0 := hA5.out.bo.c0; have t1 := hA5.out.bo.c1; have l0 : w.heap.size < w5.heap.size := block_lt hA5.out.zb.c0; have l1 : w1.heap.size < w5.heap.size := block_lt hA5.out.bo.c0)) | ((go_simp; go_at_call 12; (with_reducible refine (hP.out _ hAl.out.rd).mono ?_); rintro e w5 ⟨rfl, _, _, hr5, hg5⟩; have x0 : w5.cell? ⟨w4.heap.size, 0, none⟩ = some (.int .i64 (-1)) := hg5.cell (by go_simp) (by simp; omega); have x1 : w5.cell? ⟨w4.heap.size, 1, none⟩ = some (.int .i64 (n : Int)) := hg5.cell (by go_simp) (by simp; omega); have hA5 := Lib.hid (hAl.out.pick hr5 hg5); clear hr5 hg5; have t0 := hA5.out.bo.c0; have t1 := hA5.out.bo.c1; have l0 : w.heap.size < w5.heap.size := block_lt hA5.out.zb.c0; have l1 : w1.heap.size < w5.heap.size := block_lt hA5.out.bo.c0)))
          all_goals
            have k0 := hA5.out.zb.c0
            have k1 := hA5.out.zb.c1
            have kf := hA5.out.zb.fz
            go_wp2_with fail
            refine bodyPost_ret (v := .tuple #[.agg #[.int .i64 W, .slice s n cg], .int .i64 (-1), .int .i64 vj]) (by simp [results, Try.results11, go_sem, k0, k1, l0]) rfl ?_
            first | exact hA5.out.out hn (by omega) _ _ | exact (hA5.out.out hn (by omega) _ _).bel ((Below.refl _ _).alloc (Nat.le_refl _) _)
        · skip
          go_region_law (first | ((go_simp; go_at_call 12; (with_reducible refine (hP.out _ hAd.out.rd).mono ?_); rintro e w5 ⟨rfl, _, _, hr5, hg5⟩; have hA5 := Lib.hid (hAd.out.pick hr5 hg5); clear hr5 hg5; have t0 := hA5.out.bo.c0; have t1 := hA5.out.bo.c1; have l0 : w.heap.size < w5.heap.size := block_lt hA5.out.zb.c0; have l1 : w1.heap.size < w5.heap.size := block_lt hA5.out.bo.c0)) | ((go_simp; go_at_call 12; (with_reducible refine (hP.out _ hAl.out.rd).mono ?_); rintro e w5 ⟨rfl, _, _, hr5, hg5⟩; have x0 : w5.cell? ⟨w4.heap.size, 0, none⟩ = some (.int .i64 (-1)) := hg5.cell (by go_simp) (by simp; omega); have x1 : w5.cell? ⟨w4.heap.size, 1, none⟩ = some (.int .i64 (n : Int)) := hg5.cell (by go_simp) (by simp; omega); have hA5 := Lib.hid (hAl.out.pick hr5 hg5); clear hr5 hg5; have t0 := hA5.out.bo.c0; have t1 := hA5.out.bo.c1; have l0 : w.heap.size < w5.heap.size := block_lt hA5.out.zb.c0; have l1 : w1.heap.size < w5.heap.size := block_lt hA5.out.bo.c0)))
          all_goals
            have k0 := hA5.out.zb.c0
            have k1 := hA5.out.zb.c1
            have kf := hA5.out.zb.fz
            go_wp2_with fail
            refine bodyPost_ret (v := .tuple #[.agg #[.int .i64 W, .slice s n cg], .int .i64 (n : Int), .int .i64 vj]) (by simp [results, Try.results11, go_sem, k0, k1, l0]) rfl ?_
            first | exact hA5.out.out hn (by omega) _ _ | exact (hA5.out.out hn (by omega) _ _).bel ((Below.refl _ _).alloc (Nat.le_refl _) _)
    by_cases e1 : v = 1
    · subst e1
      go_upto_region 8 with fail
      · skip
        obtain ⟨v2, hv2⟩ : ∃ v2, pickV zs len q4 2 = v2 := ⟨_, rfl⟩
        have hP := fun wx hx => pick_fn r a len cap zs q4 2 wx hx (by omega) (by omega)
        rw [hv2] at hP
        have hP := Lib.hid hP
        have hb2 : v2 = 0 ∨ v2 = 1 := by
          have h := pickV_bd (n := 2) hA4.out.rd (by omega)
          rw [hv2] at h
          omega
        have hAd := Lib.hid (hA4.out.bel (Below.refl _ _).drew)
        have hAl := Lib.hid (hA4.out.bel (((Below.refl _ _).alloc (Nat.le_refl _) (.cells #[.int .i64 (-1), .int .i64 W] 3)).drew))
        clear z0 z1 k0 k1 kf hv2
        have z0 := hAd.out.bo.c0
        have z1 := hAd.out.bo.c1
        have y0 := hAl.out.bo.c0
        have y1 := hAl.out.bo.c1
        have hrlt : r < w4.heap.size := block_lt hA4.out.rd.c0
        rcases hb2 with e | e <;> subst e
        · skip
          go_region_law (first | ((go_simp; go_at_call 12; (with_reducible refine (hP.out _ hAd.out.rd).mono ?_); rintro e w5 ⟨rfl, _, _, hr5, hg5⟩; have hA5 := Lib.hid (hAd.out.pick hr5 hg5); clear hr5 hg5; have t0 := hA5.out.bo.c0; have t1 := hA5.out.bo.c1; have l0 : w.heap.size < w5.heap.size := block_lt hA5.out.zb.c0; have l1 : w1.heap.size < w5.heap.size := block_lt hA5.out.bo.c0)) | ((go_simp; go_at_call 12; (with_reducible refine (hP.out _ hAl.out.rd).mono ?_); rintro e w5 ⟨rfl, _, _, hr5, hg5⟩; have x0 : w5.cell? ⟨w4.heap.size, 0, none⟩ = some (.int .i64 (-1)) := hg5.cell (by go_simp) (by simp; omega); have x1 : w5.cell? ⟨w4.heap.size, 1, none⟩ = some (.int .i64 W) := hg5.cell (by go_simp) (by simp; omega); have hA5 := Lib.hid (hAl.out.pick hr5 hg5); clear hr5 hg5; have t0 := hA5.out.bo.c0; have t1 := hA5.out.bo.c1; have l0 : w.heap.size < w5.heap.size := block_lt hA5.out.zb.c0; have l1 : w1.heap.size < w5.heap.size := block_lt hA5.out.bo.c0)))
          all_goals
            have k0 := hA5.out.zb.c0
            have k1 := hA5.out.zb.c1
            have kf := hA5.out.zb.fz
            go_wp2_with fail
            refine bodyPost_ret (v := .tuple #[.agg #[.int .i64 W, .slice s n cg], .int .i64 vi, .int .i64 (-1)]) (by simp [results, Try.results11, go_sem, k0, k1, l0]) rfl ?_
            first | exact hA5.out.out hn (by omega) _ _ | exact (hA5.out.out hn (by omega) _ _).bel ((Below.refl _ _).alloc (Nat.le_refl _) _)
        · skip
          go_region_law (first | ((go_simp; go_at_call 12; (with_reducible refine (hP.out _ hAd.out.rd).mono ?_); rintro e w5 ⟨rfl, _, _, hr5, hg5⟩; have hA5 := Lib.hid (hAd.out.pick hr5 hg5); clear hr5 hg5; have t0 := hA5.out.bo.c0; have t1 := hA5.out.bo.c1; have l0 : w.heap.size < w5.heap.size := block_lt hA5.out.zb.c0; have l1 : w1.heap.size < w5.heap.size := block_lt hA5.out.bo.c0)) | ((go_simp; go_at_call 12; (with_reducible refine (hP.out _ hAl.out.rd).mono ?_); rintro e w5 ⟨rfl, _, _, hr5, hg5⟩; have x0 : w5.cell? ⟨w4.heap.size, 0, none⟩ = some (.int .i64 (-1)) := hg5.cell (by go_simp) (by simp; omega); have x1 : w5.cell? ⟨w4.heap.size, 1, none⟩ = some (.int .i64 W) := hg5.cell (by go_simp) (by simp; omega); have hA5 := Lib.hid (hAl.out.pick hr5 hg5); clear hr5 hg5; have t0 := hA5.out.bo.c0; have t1 := hA5.out.bo.c1; have l0 : w.heap.size < w5.heap.size := block_lt hA5.out.zb.c0; have l1 : w1.heap.size < w5.heap.size := block_lt hA5.out.bo.c0)))
          all_goals
            have k0 := hA5.out.zb.c0
            have k1 := hA5.out.zb.c1
            have kf := hA5.out.zb.fz
            go_wp2_with fail
            refine bodyPost_ret (v := .tuple #[.agg #[.int .i64 W, .slice s n cg], .int .i64 vi, .int .i64 W]) (by simp [results, Try.results11, go_sem, k0, k1, l0]) rfl ?_
            first | exact hA5.out.out hn (by omega) _ _ | exact (hA5.out.out hn (by omega) _ _).bel ((Below.refl _ _).alloc (Nat.le_refl _) _)
    go_wp2_with fail
    refine bodyPost_ret (v := .tuple #[.agg #[.int .i64 W, .slice s n cg], .int .i64 vi, .int .i64 vj]) (by simp [results, Try.results11, go_sem, k0, k1]) rfl ?_
    exact hA4.out.out hn (by omega) _ _
end Go.Proofs.Ytcnmoodkmlahnaa

