/-
  The contracts of DrawSumsValid and DrawSumsFit.
-/
import Derived.Test.YteadibgjieimkaaSg
import Derived.Deep.RegionLaw
namespace Go.Proofs.Yteadibgjieimkaa
set_option maxRecDepth 100000
open Go.RowKit

theorem sumsB_flip {xs ys : List Int} (h : sumsB xs ys = true) : sumsB ys xs = true := by
  unfold sumsB at *
  simp only [Bool.and_eq_true] at *
  exact ⟨h.2.1, h.1, h.2.2.2, h.2.2.1⟩
theorem sumsB_parts {xs ys : List Int} (h : sumsB xs ys = true) : (1 ≤ xs.length ∧ xs.length ≤ 6) ∧ (1 ≤ ys.length ∧ ys.length ≤ 6) ∧ (∀ i, i < xs.length → 0 ≤ xs.getD i 0 ∧ xs.getD i 0 ≤ ys.length) ∧ (∀ i, i < ys.length → 0 ≤ ys.getD i 0 ∧ ys.getD i 0 ≤ xs.length) := by
  unfold sumsB at h
  simp only [Bool.and_eq_true] at h
  have h1 := inB_iff.1 h.1
  have h2 := inB_iff.1 h.2.1
  exact ⟨by omega, by omega, allIn_iff.1 h.2.2.1, allIn_iff.1 h.2.2.2⟩
theorem row_news {w : World} {b off n : Nat} {xs : List Int} (h : Row w (some ⟨b, off, none⟩) n xs) (hn : 0 < n := by omega) : ∀ j u, (xs.map (Value.int .i64))[j]? = some u → w.cell? ((⟨b, off, none⟩ : Addr).add j) = some u := by
  obtain ⟨b', off', e, hc⟩ := h.2.resolve_left (by omega)
  cases e
  exact news_of h.1 hc

/-- What a function that draws sums leaves. -/
def DrawnS (w : World) (e : Ending) (w' : World) : Prop :=
  ∃ (aR : Option Addr) (n c : Nat) (xs : List Int) (aC : Option Addr) (m c' : Nat) (ys : List Int), e = .returned (.tuple #[.slice aR n c, .slice aC m c']) ∧ Row w' aR n xs ∧ Row w' aC m ys ∧ (n ≤ 6 ∧ 1 ≤ m ∧ m ≤ 12) ∧ (n ≤ c ∧ m ≤ c') ∧ (∀ i, i < n → -1 ≤ xs.getD i 0 ∧ xs.getD i 0 ≤ 7) ∧ (∀ i, i < m → -1 ≤ ys.getD i 0 ∧ ys.getD i 0 ≤ 7) ∧ Below w.heap.size w w'

set_option maxHeartbeats 400000 in
theorem draw_DrawSumsValid (a : Option Addr) (len cap : Nat) (zs : List Int) (w : World) (h : Bys w a len zs) (hl : len ≤ cap) (hm : cap ≤ 9223372036854775807) :
    Calls Try.prog 16 #[.slice a len cap] w (DrawnS w) := by
  go_enter Try.func16, Try.ntmps16
  go_wp2_with fail
  refine (open_any a len cap zs _ h hl hm).mono ?_
  rintro e w1 ⟨a1, l1, c1, rfl, hr, hb⟩
  have bb := Lib.hid hb
  have hs := hb.size
  clear hb h
  go_wp2_with fail
  refine (sumsW_any _ a1 l1 c1 zs 0 w1 hr (by omega)).mono ?_
  rintro e w2 ⟨aR, n, c, xs, aC, m, c', ys, p', rfl, hoR, hoC, _, _, hg, _, hnm, bR, bC⟩
  have b2 := Lib.hid (grown_cut bb.out hg (Nat.le_refl _) hs)
  have hR := Lib.hid hoR.row
  have hC := Lib.hid hoC.row
  have c1 := own_cap hoR
  have c2 := own_cap hoC
  have bR := Lib.hid bR
  have bC := Lib.hid bC
  clear hoR hoC hg hr
  go_wp2_with fail
  refine bodyPost_ret (v := .tuple #[.slice aR n c, .slice aC m c']) (by simp [results, Try.results16, go_sem]) rfl ?_
  exact ⟨aR, n, c, xs, aC, m, c', ys, rfl, hR.out, hC.out, hnm, ⟨c1, c2⟩, bR.out, bC.out, b2.out⟩

theorem rsOut_bd (W : Int) (xs : List Int) : ∀ i, i < (rsOut W xs).length → -1 ≤ (rsOut W xs).getD i 0 ∧ (rsOut W xs).getD i 0 ≤ 7 := by
  unfold rsOut
  by_cases hv : validB W xs = true
  · rw [if_pos hv]
    intro i hi
    rw [rs_len] at hi
    rw [rs_get hi]
    have := cnt_bd (xs.getD i 0) W.toNat
    have := validB_W hv
    omega
  · rw [if_neg hv]; intro i hi; simp at hi
theorem csOut_bd (W : Int) (xs : List Int) : ∀ i, i < (csOut W xs).length → -1 ≤ (csOut W xs).getD i 0 ∧ (csOut W xs).getD i 0 ≤ 7 := by
  unfold csOut
  by_cases hv : validB W xs = true
  · rw [if_pos hv]
    intro i hi
    rw [cs_len] at hi
    rw [cs_get hi]
    have := csI_bd xs i xs.length
    have := validB_len hv
    omega
  · rw [if_neg hv]; intro i hi; simp at hi
/-- What DrawSumsFit leaves. -/
def DrawnF (w : World) (e : Ending) (w' : World) : Prop :=
  ∃ (W : Int) (s : Option Addr) (l cg : Nat) (xs : List Int) (aR : Option Addr) (n c : Nat) (rows : List Int) (aC : Option Addr) (m c' : Nat) (cols : List Int), e = .returned (.tuple #[.agg #[.int .i64 W, .slice s l cg], .slice aR n c, .slice aC m c']) ∧ Row w' s l xs ∧ Row w' aR n rows ∧ Row w' aC m cols ∧ (l ≤ 6 ∧ n ≤ 6 ∧ m ≤ 12) ∧ (l ≤ cg ∧ n ≤ c ∧ m ≤ c') ∧ (∀ i, i < n → -1 ≤ rows.getD i 0 ∧ rows.getD i 0 ≤ 7) ∧ (∀ i, i < m → -1 ≤ cols.getD i 0 ∧ cols.getD i 0 ≤ 7) ∧ Below w.heap.size w w'

set_option maxHeartbeats 1000000 in
theorem draw_DrawSumsFit (a : Option Addr) (len cap : Nat) (zs : List Int) (w : World) (h : Bys w a len zs) (hl : len ≤ cap) (hm : cap ≤ 9223372036854775807) :
    Calls Try.prog 19 #[.slice a len cap] w (DrawnF w) := by
  have h0 := h.bel ((Below.refl _ _).alloc (Nat.le_refl _) (.cells #[.int .i64 0, .slice none 0 0] 29))
  clear h
  go_enter Try.func19, Try.ntmps19
  go_wp2_with fail
  refine (open_any a len cap zs _ h0 hl hm).mono ?_
  rintro e w1 ⟨a1, l1, c1, rfl, hr, hb⟩
  have hs1 := hb.size
  have bb := ((Below.refl _ _).alloc (Nat.le_refl _) (.cells #[.int .i64 0, .slice none 0 0] 29)).trans (hb.mono (by simp))
  have zb := (Box.bel (wr := w.alloc (.cells #[.int .i64 0, .slice none 0 0] 29)) (b := w.heap.size) (v0 := .int .i64 0) (v1 := .slice none 0 0) ⟨by simp, by simp, fun o => by simp⟩ hb)
  simp only [World.size_alloc] at hr hs1
  have hrl : w.heap.size + 1 < w1.heap.size := block_lt hr.c0
  have zb := Lib.hid zb
  have bb := Lib.hid bb
  clear hb h0
  go_wp2_with fail
  refine (wrong_any _ a1 l1 c1 zs 0 w1 hr (by omega)).mono ?_
  rintro e w2 ⟨W, s, l, cg, xs, rfl, hR, hn, hg, hf, p', hp', hrd⟩
  have hs2 := hg.size
  have hR := Lib.hid hR.row
  have zb := zb.out.grown hg (by omega)
  have bb := Lib.hid (grown_cut bb.out hg (by omega) (by omega))
  have ba : Below w2.heap.size w2 (w2.alloc (.cells #[.int .i64 W, .slice s l cg] 29)) := (Below.refl _ _).alloc (Nat.le_refl _) _
  have ob : Box (w2.alloc (.cells #[.int .i64 W, .slice s l cg] 29)) w2.heap.size (.int .i64 W) (.slice s l cg) := ⟨by simp, by simp, fun o => by simp⟩
  have zb := zb.bel ba
  have hR := Lib.hid (hR.out.bel ba)
  have bb := Lib.hid (bb.out.trans (ba.mono bb.out.size))
  have hrd := hrd.bel ba
  clear hr hg ba
  go_wp2_with fail
  refine (pick_any _ a1 l1 c1 zs p' 4 _ hrd (by omega) (by omega)).mono ?_
  rintro e w3 ⟨v, rfl, hv0, hv1, hr3, hg3⟩
  have hs3 : w2.heap.size + 1 ≤ w3.heap.size := by have := hg3.size; simpa using this
  have zb := zb.grown hg3 (by omega)
  have ob := ob.grown hg3 (by omega)
  have bb := Lib.hid (grown_cut bb.out hg3 (by omega) (by simp; omega))
  have hR := Lib.hid (hR.out.apart hg3 (fun b off e hl => by have := hf b off e hl; simp; omega))
  have z0 := zb.c0
  have z1 := zb.c1
  have zf := zb.fz
  have y0 := ob.c0
  have y1 := ob.c1
  clear hg3 hrd
  have bd1 := Lib.hid (rsOut_bd W xs)
  have bd2 := Lib.hid (csOut_bd W xs)
  have n1 := rsOut_six W xs
  have n2 := csOut_len W xs
  by_cases e0 : 0 < v
  · clear hr3
    have l0 : w.heap.size < w3.heap.size := by omega
    have l2 : w2.heap.size < w3.heap.size := by omega
    have hd := Lib.hid (hR.out.bel ((Below.refl _ _).drew))
    go_wp2_with fail
    go_region_law (first | ((go_simp; go_at_call 52; (with_reducible refine (rsums_spec W s l cg xs _ hd.out (by omega)).mono ?_); rintro e w4 ⟨⟨aR, cR, rfl, hoR⟩, hb⟩; have z0 := kept hb l0 (show w3.drew.cell? _ = _ from z0); have z1 := kept hb l0 (show w3.drew.cell? _ = _ from z1); have zf := frozen_bel (wr := w3.drew) (b := w.heap.size) (fun o => zf o) hb l0; have y0 := kept hb l2 (show w3.drew.cell? _ = _ from y0); have y1 := kept hb l2 (show w3.drew.cell? _ = _ from y1); have hR := Lib.hid (hd.out.bel hb); have bb := Lib.hid (bb.out.drew.trans (hb.mono bb.out.drew.size)); have cR1 := hoR.cap; have rg1 := rng_own hoR; have hoR := Lib.hid hoR; have l0 : w.heap.size < w4.heap.size := block_lt z0; have l2 : w2.heap.size < w4.heap.size := block_lt y0; have s4 := hb.size; clear hb hd)) | ((go_simp; go_at_call 53; (with_reducible refine (csums_spec W s l cg xs _ hR.out (by omega)).mono ?_); rintro e w5 ⟨⟨aC, cC, rfl, hoC⟩, hb⟩; have z0 := kept hb l0 z0; have z1 := kept hb l0 z1; have zf := frozen_bel (b := w.heap.size) zf hb l0; have y0 := kept hb l2 y0; have y1 := kept hb l2 y1; have hR := Lib.hid (hR.out.bel hb); have hoR := Lib.hid (hoR.out.bel hb); have bb := Lib.hid (bb.out.trans (hb.mono bb.out.size)); have cC1 := hoC.cap; have rg2 := rng_own hoC; have hoC := Lib.hid hoC; clear hb)))
    all_goals
      go_wp2_with fail
      refine bodyPost_ret (v := .tuple #[.agg #[.int .i64 W, .slice s l cg], .slice aR (rsOut W xs).length cR, .slice aC (csOut W xs).length cC]) (by simp [results, Try.results19, go_sem, z0, z1]) rfl ?_
      have gb : ∀ (wx : World) (u0 u1 : Value), wx.grownBy ((wx.setCell ⟨w.heap.size, 0, none⟩ u0).setCell ⟨w.heap.size, 1, none⟩ u1) (some w.heap.size) := fun wx u0 u1 => grown_set (grown_set (World.grownBy.refl _ _))
      exact ⟨W, s, l, cg, xs, aR, _, cR, _, aC, _, cC, _, rfl, hR.out.apart (gb _ _ _) (fun b off e hl => by have := hf b off e hl; simp; omega), ((hoR.out.store (show w.heap.size < w3.heap.size by omega) _).store (show w.heap.size < w3.heap.size by omega) _).row, ((hoC.out.store (show w.heap.size < w4.heap.size by omega) _).store (show w.heap.size < w4.heap.size by omega) _).row, ⟨hn.1, n1, by omega⟩, ⟨hn.2, cR1, cC1⟩, bd1.out, bd2.out, (bb.out.setCell (by simp) _).setCell (by simp) _⟩
  · go_wp2_with fail
    refine (sumsW_any _ a1 l1 c1 zs _ w3 hr3 (by omega)).mono ?_
    rintro e w4 ⟨aR, n, c, rows, aC, m, c', cols, p2, rfl, hoR, hoC, _, _, hg, _, hnm, bR, bC⟩
    have hs4 := hg.size
    have zb := zb.grown hg (by omega)
    have ob := ob.grown hg (by omega)
    have bb := Lib.hid (grown_cut bb.out hg (by omega) (by omega))
    have hR := Lib.hid (hR.out.apart hg (fun b off e hl => by have := hf b off e hl; simp; omega))
    have z0 := zb.c0
    have z1 := zb.c1
    have zf := zb.fz
    have y0 := ob.c0
    have y1 := ob.c1
    have c1 := own_cap hoR
    have c2 := own_cap hoC
    have hoR := Lib.hid hoR
    have hoC := Lib.hid hoC
    have bR := Lib.hid bR
    have bC := Lib.hid bC
    clear hg hr3
    go_wp2_with fail
    refine bodyPost_ret (v := .tuple #[.agg #[.int .i64 W, .slice s l cg], .slice aR n c, .slice aC m c']) (by simp [results, Try.results19, go_sem, z0, z1]) rfl ?_
    have gb : ∀ (wx : World) (u0 u1 : Value), wx.grownBy ((wx.setCell ⟨w.heap.size, 0, none⟩ u0).setCell ⟨w.heap.size, 1, none⟩ u1) (some w.heap.size) := fun wx u0 u1 => grown_set (grown_set (World.grownBy.refl _ _))
    exact ⟨W, s, l, cg, xs, aR, n, c, rows, aC, m, c', cols, rfl, hR.out.apart (gb _ _ _) (fun b off e hl => by have := hf b off e hl; simp; omega), ((hoR.out.store (show w.heap.size < w3.heap.size by omega) _).store (show w.heap.size < w3.heap.size by omega) _).row, ((hoC.out.store (show w.heap.size < w3.heap.size by omega) _).store (show w.heap.size < w3.heap.size by omega) _).row, ⟨hn.1, by omega, by omega⟩, ⟨hn.2, c1, c2⟩, bR.out, bC.out, (bb.out.setCell (by simp) _).setCell (by simp) _⟩
end Go.Proofs.Yteadibgjieimkaa

