/-
  The contracts of the laws' drawing functions of chapter 11.
-/
import Derived.Test.YtgbbigekamapiaaKe
namespace Go.Proofs.Ytgbbigekamapiaa
set_option maxRecDepth 100000
open Go.RowKit

/-- What is drawn: an image of at most six rows, valid or not, and a switch of small numbers. -/
def DrawnSw (w : World) (e : Ending) (w' : World) : Prop :=
  ∃ (W : Int) (s : Option Addr) (n cg : Nat) (xs : List Int) (A B C D : Int), e = .returned (.tuple #[.agg #[.int .i64 W, .slice s n cg], .agg #[.int .i64 A, .int .i64 B, .int .i64 C, .int .i64 D]]) ∧ Row w' s n xs ∧ (n ≤ 6 ∧ n ≤ cg) ∧ (0 ≤ A ∧ A ≤ 6 ∧ 0 ≤ B ∧ B ≤ 6 ∧ 0 ≤ C ∧ C ≤ 6 ∧ 0 ≤ D ∧ D ≤ 6) ∧ (∀ b off, s = some ⟨b, off, none⟩ → 0 < n → w.heap.size ≤ b) ∧ Below w.heap.size w w'
/-- The middle of the walk: the results' boxes, the image's box, the reader. -/
structure LDw (w wr : World) (kb r : Nat) (W : Int) (s : Option Addr) (n cg : Nat) (xs : List Int) (a : Option Addr) (len cap : Nat) (zs : List Int) (p : Nat) : Prop where
  x0 : wr.cell? ⟨w.heap.size, 0, none⟩ = some (.int .i64 0)
  x1 : wr.cell? ⟨w.heap.size, 1, none⟩ = some (.slice none 0 0)
  y0 : wr.cell? ⟨w.heap.size + 1, 0, none⟩ = some (.int .i64 0)
  y1 : wr.cell? ⟨w.heap.size + 1, 1, none⟩ = some (.int .i64 0)
  y2 : wr.cell? ⟨w.heap.size + 1, 2, none⟩ = some (.int .i64 0)
  y3 : wr.cell? ⟨w.heap.size + 1, 3, none⟩ = some (.int .i64 0)
  xf : ∀ o, wr.frozen? ⟨w.heap.size, o, none⟩ = false
  yf : ∀ o, wr.frozen? ⟨w.heap.size + 1, o, none⟩ = false
  b0 : wr.cell? ⟨kb, 0, none⟩ = some (.int .i64 W)
  b1 : wr.cell? ⟨kb, 1, none⟩ = some (.slice s n cg)
  row : Row wr s n xs
  rd : Rd wr r a len cap zs p
  bl : Below w.heap.size w wr
  hr : w.heap.size + 1 < r
  hk : kb ≠ r
  src : ∀ b off, s = some ⟨b, off, none⟩ → 0 < n → w.heap.size + 1 < b ∧ b ≠ r
theorem LDw.pick {w wr w1 : World} {kb r : Nat} {W : Int} {s : Option Addr} {n cg : Nat} {xs : List Int} {a : Option Addr} {len cap : Nat} {zs : List Int} {p p' : Nat} (h : LDw w wr kb r W s n cg xs a len cap zs p) (hr : Rd w1 r a len cap zs p') (hg : wr.grownBy w1 (some r)) : LDw w w1 kb r W s n cg xs a len cap zs p' := by
  have n1 := h.hr
  have n2 := h.hk
  exact ⟨hg.cell h.x0 (by simp; omega), hg.cell h.x1 (by simp; omega), hg.cell h.y0 (by simp; omega), hg.cell h.y1 (by simp; omega), hg.cell h.y2 (by simp; omega), hg.cell h.y3 (by simp; omega), fun o => (frozen_grown hg h.x0 (by omega)).trans (h.xf o), fun o => (frozen_grown hg h.y0 (by omega)).trans (h.yf o), hg.cell h.b0 (by simpa using n2), hg.cell h.b1 (by simpa using n2), h.row.apart hg (fun b off e hl => by have := h.src b off e hl; simp; omega), hr, grown_cut h.bl hg (by omega) h.bl.size, h.hr, h.hk, h.src⟩
theorem LDw.bel {w wr w1 : World} {kb r : Nat} {W : Int} {s : Option Addr} {n cg : Nat} {xs : List Int} {a : Option Addr} {len cap : Nat} {zs : List Int} {p : Nat} (h : LDw w wr kb r W s n cg xs a len cap zs p) (hb : Below wr.heap.size wr w1) : LDw w w1 kb r W s n cg xs a len cap zs p :=
  h.pick (h.rd.bel hb) (below_grown hb _)
theorem LDw.out {w wr : World} {kb r : Nat} {W : Int} {s : Option Addr} {n cg : Nat} {xs : List Int} {a : Option Addr} {len cap : Nat} {zs : List Int} {p : Nat} {v0 v1 v2 v3 v4 v5 : Value} {A B C D : Int} (h : LDw w wr kb r W s n cg xs a len cap zs p) (hn : n ≤ 6 ∧ n ≤ cg) (hv : 0 ≤ A ∧ A ≤ 6 ∧ 0 ≤ B ∧ B ≤ 6 ∧ 0 ≤ C ∧ C ≤ 6 ∧ 0 ≤ D ∧ D ≤ 6) :
    DrawnSw w (.returned (.tuple #[.agg #[.int .i64 W, .slice s n cg], .agg #[.int .i64 A, .int .i64 B, .int .i64 C, .int .i64 D]])) ((((((wr.setCell ⟨w.heap.size, 0, none⟩ v0).setCell ⟨w.heap.size, 1, none⟩ v1).setCell ⟨w.heap.size + 1, 0, none⟩ v2).setCell ⟨w.heap.size + 1, 1, none⟩ v3).setCell ⟨w.heap.size + 1, 2, none⟩ v4).setCell ⟨w.heap.size + 1, 3, none⟩ v5) := by
  refine ⟨W, s, n, cg, xs, A, B, C, D, rfl, ?_, hn, hv, fun b off e hl => by have := h.src b off e hl; omega, (((((h.bl.setCell (by simp) _).setCell (by simp) _).setCell (by simp) _).setCell (by simp) _).setCell (by simp) _).setCell (by simp) _⟩
  have h1 := h.row.apart (grown_set (v := v1) (j := 1) (grown_set (v := v0) (j := 0) (World.grownBy.refl wr (some w.heap.size)))) (fun b off e hl => by have := h.src b off e hl; simp; omega)
  exact h1.apart (grown_set (grown_set (grown_set (grown_set (World.grownBy.refl _ (some (w.heap.size + 1))))))) (fun b off e hl => by have := h.src b off e hl; simp; omega)

theorem off2 {V : World} {b c i j : Nat} {u : Value} (h : b ≠ c) : (V.setCell ⟨c, i, none⟩ u).cell? ⟨b, j, none⟩ = V.cell? ⟨b, j, none⟩ :=
  World.cell?_setCell_other _ _ _ _ (by first | (simp; done) | (simp; omega))

set_option maxHeartbeats 1000000 in
theorem draw_DrawSwitchOk (a : Option Addr) (len cap : Nat) (zs : List Int) (w : World) (h : Bys w a len zs) (hl : len ≤ cap) (hm : cap ≤ 9223372036854775807) :
    Calls Try.prog 68 #[.slice a len cap] w (DrawnSw w) := by
  obtain ⟨W0, hW0⟩ : ∃ W0, W0 = (w.alloc (.cells #[.int .i64 0, .slice none 0 0] 25)).alloc (.cells #[.int .i64 0, .int .i64 0, .int .i64 0, .int .i64 0] 42) := ⟨_, rfl⟩
  have bb : Below w.heap.size w W0 := by subst hW0; exact ((Below.refl _ _).alloc (Nat.le_refl _) _).alloc (by simp) _
  have h0 := h.bel ((Below.mono bb (Nat.le_refl _)))
  have hs0 : W0.heap.size = w.heap.size + 2 := by subst hW0; simp
  have cc : W0.cell? ⟨w.heap.size, 0, none⟩ = some (.int .i64 0) ∧ W0.cell? ⟨w.heap.size, 1, none⟩ = some (.slice none 0 0) ∧ W0.cell? ⟨w.heap.size + 1, 0, none⟩ = some (.int .i64 0) ∧ W0.cell? ⟨w.heap.size + 1, 1, none⟩ = some (.int .i64 0) ∧ W0.cell? ⟨w.heap.size + 1, 2, none⟩ = some (.int .i64 0) ∧ W0.cell? ⟨w.heap.size + 1, 3, none⟩ = some (.int .i64 0) := by
    subst hW0; simp
  have ff : (∀ o, W0.frozen? ⟨w.heap.size, o, none⟩ = false) ∧ (∀ o, W0.frozen? ⟨w.heap.size + 1, o, none⟩ = false) := by
    subst hW0; simp
  replace cc := Lib.hid cc
  replace h0 := Lib.hid h0
  replace bb := Lib.hid bb
  replace hs0 := Lib.hid hs0
  replace ff := Lib.hid ff
  clear h
  go_enter Try.func68, Try.ntmps68
  go_wp2_with fail
  rw [← hW0]
  clear hW0
  refine (open_any a len cap zs _ h0.out hl hm).mono ?_
  rintro e w1 ⟨a1, l1, c1, rfl, hr, hb⟩
  replace hb := Lib.hid hb
  replace hr := Lib.hid hr
  go_wp2_with fail
  refine (wrong_any _ a1 l1 c1 zs 0 w1 hr.out (by omega)).mono ?_
  rintro e w2 ⟨W, s, n, cg, xs, rfl, hR, hn, hg, hf, p2, hp2, hr2⟩
  replace hs0 := hs0.out
  have hrlt : W0.heap.size < w1.heap.size := block_lt hr.out.c0
  have hA : LDw w (w2.alloc (.cells #[.int .i64 W, .slice s n cg] 25)) w2.heap.size W0.heap.size W s n cg xs a1 l1 c1 zs p2 := by
    have hs2 := hg.size
    have hb3 := (Below.refl w2.heap.size w2).alloc (Nat.le_refl _) (.cells #[.int .i64 W, .slice s n cg] 25)
    have cg' : ∀ {q : Addr} {v : Value}, q.block < W0.heap.size → W0.cell? q = some v → (w2.alloc (.cells #[.int .i64 W, .slice s n cg] 25)).cell? q = some v := fun {q v} h1 h2 => kept hb3 (by show q.block < w2.heap.size; omega) (hg.cell (kept hb.out h1 h2) (by simp; omega))
    have fg' : ∀ b, b < W0.heap.size → ∀ v, W0.cell? ⟨b, 0, none⟩ = some v → (∀ o, W0.frozen? ⟨b, o, none⟩ = false) → ∀ o, (w2.alloc (.cells #[.int .i64 W, .slice s n cg] 25)).frozen? ⟨b, o, none⟩ = false := fun b h1 v h2 h3 o => by
      rw [hb3.frozen (p := ⟨b, o, none⟩) (by show b < w2.heap.size; omega), frozen_grown hg (kept hb.out h1 h2) (by omega), hb.out.frozen (p := ⟨b, o, none⟩) h1]
      exact h3 o
    refine ⟨cg' (by simp; omega) cc.out.1, cg' (by simp; omega) cc.out.2.1, cg' (by simp; omega) cc.out.2.2.1, cg' (by simp; omega) cc.out.2.2.2.1, cg' (by simp; omega) cc.out.2.2.2.2.1, cg' (by simp; omega) cc.out.2.2.2.2.2, fg' _ (by omega) _ cc.out.1 ff.out.1, fg' _ (by omega) _ cc.out.2.2.1 ff.out.2, by simp, by simp, hR.row.bel hb3, hr2.bel hb3, ?_, by omega, by omega, fun b off e h0 => by have := hf b off e h0; omega⟩
    exact (grown_cut (bb.out.trans (hb.out.mono bb.out.size)) hg (by omega) (by omega)).trans (hb3.mono (by omega))
  have hD := Lib.hid (hA.bel (Below.refl _ _).drew)
  have y0 := hA.b0
  have y1 := hA.b1
  have x0 := hD.out.b0
  have x1 := hD.out.b1
  have hne0 : w2.heap.size ≠ w.heap.size := by have := hg.size; omega
  have hne1 : w2.heap.size ≠ w.heap.size + 1 := by have := hg.size; omega
  clear hA hR hg hf hr2 hr hb h0 cc ff bb hrlt hs0
  go_wp2_with fail
  go_region_held3 (fun W' => W'.cell? ⟨w2.heap.size, 0, none⟩ = some (.int .i64 W) ∧ W'.cell? ⟨w2.heap.size, 1, none⟩ = some (.slice s n cg))
    (first | (with_reducible exact ⟨x0, x1⟩) | (with_reducible exact ⟨c0, c1⟩) | ((simp only [off2 hne0, off2 hne1]); exact ⟨c0, c1⟩))
    ((go_at_call 89; refine (switch_any _ a1 l1 c1 zs p2 W s n cg xs _ hD.out.rd (by omega) hD.out.row (by omega)).mono ?_; rintro e w8 ⟨A, B, C, D, rfl, hv, hg8, q8, hq8, hr8⟩; have hE := hD.out.pick hr8 hg8; have c0 := hE.b0; have c1 := hE.b1; have k0 := hE.x0; have k1 := hE.x1; have m0 := hE.y0; have m1 := hE.y1; have m2 := hE.y2; have m3 := hE.y3; have kf := hE.xf; have mf := hE.yf; have hE := Lib.hid hE; clear hr8 hg8))
  go_wp2_with fail
  refine bodyPost_ret (v := .tuple #[.agg #[.int .i64 W, .slice s n cg], .agg #[.int .i64 A, .int .i64 B, .int .i64 C, .int .i64 D]]) (by simp [results, Try.results68, go_sem, k0, k1, m0, m1, m2, m3]) rfl ?_
  exact hE.out.out hn hv

set_option maxHeartbeats 1000000 in
theorem draw_DrawSwitchDo (a : Option Addr) (len cap : Nat) (zs : List Int) (w : World) (h : Bys w a len zs) (hl : len ≤ cap) (hm : cap ≤ 9223372036854775807) :
    Calls Try.prog 32 #[.slice a len cap] w (DrawnSw w) := by
  obtain ⟨W0, hW0⟩ : ∃ W0, W0 = (w.alloc (.cells #[.int .i64 0, .slice none 0 0] 25)).alloc (.cells #[.int .i64 0, .int .i64 0, .int .i64 0, .int .i64 0] 42) := ⟨_, rfl⟩
  have bb : Below w.heap.size w W0 := by subst hW0; exact ((Below.refl _ _).alloc (Nat.le_refl _) _).alloc (by simp) _
  have h0 := h.bel ((Below.mono bb (Nat.le_refl _)))
  have hs0 : W0.heap.size = w.heap.size + 2 := by subst hW0; simp
  have cc : W0.cell? ⟨w.heap.size, 0, none⟩ = some (.int .i64 0) ∧ W0.cell? ⟨w.heap.size, 1, none⟩ = some (.slice none 0 0) ∧ W0.cell? ⟨w.heap.size + 1, 0, none⟩ = some (.int .i64 0) ∧ W0.cell? ⟨w.heap.size + 1, 1, none⟩ = some (.int .i64 0) ∧ W0.cell? ⟨w.heap.size + 1, 2, none⟩ = some (.int .i64 0) ∧ W0.cell? ⟨w.heap.size + 1, 3, none⟩ = some (.int .i64 0) := by
    subst hW0; simp
  have ff : (∀ o, W0.frozen? ⟨w.heap.size, o, none⟩ = false) ∧ (∀ o, W0.frozen? ⟨w.heap.size + 1, o, none⟩ = false) := by
    subst hW0; simp
  replace cc := Lib.hid cc
  replace h0 := Lib.hid h0
  replace bb := Lib.hid bb
  replace hs0 := Lib.hid hs0
  replace ff := Lib.hid ff
  clear h
  go_enter Try.func32, Try.ntmps32
  go_wp2_with fail
  rw [← hW0]
  clear hW0
  refine (draw_DrawSwitchOk a len cap zs _ h0.out hl hm).mono ?_
  replace hs0 := hs0.out
  replace bb := bb.out
  rintro e w1 ⟨W, s, n, cg, xs, A, B, C, D, rfl, hR, hn, hv, hsrc, hb⟩
  have k0 := kept hb (by simp; omega) cc.out.1
  have k1 := kept hb (by simp; omega) cc.out.2.1
  have m0 := kept hb (by simp; omega) cc.out.2.2.1
  have m1 := kept hb (by simp; omega) cc.out.2.2.2.1
  have m2 := kept hb (by simp; omega) cc.out.2.2.2.2.1
  have m3 := kept hb (by simp; omega) cc.out.2.2.2.2.2
  have kf : ∀ o, w1.frozen? ⟨w.heap.size, o, none⟩ = false := fun o => (hb.frozen (p := ⟨w.heap.size, o, none⟩) (by show w.heap.size < _; omega)).trans (ff.out.1 o)
  have mf : ∀ o, w1.frozen? ⟨w.heap.size + 1, o, none⟩ = false := fun o => (hb.frozen (p := ⟨w.heap.size + 1, o, none⟩) (by show w.heap.size + 1 < _; omega)).trans (ff.out.2 o)
  have bl := Lib.hid (bb.trans (hb.mono bb.size))
  replace hR := Lib.hid hR
  have hsrc := Lib.hid (fun b off e h0 => (show w.heap.size + 1 < b by have := hsrc b off e h0; omega))
  clear hb cc ff bb h0 hs0
  go_wp2_with fail
  refine bodyPost_ret (v := .tuple #[.agg #[.int .i64 W, .slice s n cg], .agg #[.int .i64 A, .int .i64 B, .int .i64 C, .int .i64 D]]) (by simp [results, Try.results32, go_sem, k0, k1, m0, m1, m2, m3]) rfl ?_
  refine ⟨W, s, n, cg, xs, A, B, C, D, rfl, ?_, hn, hv, fun b off e hl => by have := hsrc.out b off e hl; omega, (((((bl.out.setCell (by simp) _).setCell (by simp) _).setCell (by simp) _).setCell (by simp) _).setCell (by simp) _).setCell (by simp) _⟩
  have h1 := hR.out.apart (grown_set (v := (.int .i64 W)) (j := 0) (World.grownBy.refl w1 (some w.heap.size))) (fun b off e hl => by have := hsrc.out b off e hl; simp; omega)
  have h2 := h1.apart (grown_set (v := (.slice s n cg)) (j := 1) (World.grownBy.refl _ (some w.heap.size))) (fun b off e hl => by have := hsrc.out b off e hl; simp; omega)
  exact h2.apart (grown_set (grown_set (grown_set (grown_set (World.grownBy.refl _ (some (w.heap.size + 1))))))) (fun b off e hl => by have := hsrc.out b off e hl; simp; omega)

set_option maxHeartbeats 400000 in
theorem draw_DrawSwitchFirst (a : Option Addr) (len cap : Nat) (zs : List Int) (w : World) (h : Bys w a len zs) (hl : len ≤ cap) (hm : cap ≤ 9223372036854775807) :
    Calls Try.prog 36 #[.slice a len cap] w (Drawn w) := by
  have h0 := h.bel ((Below.refl _ _).alloc (Nat.le_refl _) (.cells #[.int .i64 0, .slice none 0 0] 25))
  clear h
  go_enter Try.func36, Try.ntmps36
  go_wp2_with fail
  refine (open_any a len cap zs _ h0 hl hm).mono ?_
  rintro e w1 ⟨a1, l1, c1, rfl, hr, hb⟩
  have hs1 := hb.size
  have bb := ((Below.refl _ _).alloc (Nat.le_refl _) (.cells #[.int .i64 0, .slice none 0 0] 25)).trans (hb.mono (by simp))
  have zb := (Box.bel (wr := w.alloc (.cells #[.int .i64 0, .slice none 0 0] 25)) (b := w.heap.size) (v0 := .int .i64 0) (v1 := .slice none 0 0) ⟨by simp, by simp, fun o => by simp⟩ hb)
  simp only [World.size_alloc] at hr hs1
  have zb := Lib.hid zb
  have bb := Lib.hid bb
  clear hb
  go_wp2_with fail
  refine (wrong_any _ a1 l1 c1 zs 0 w1 hr (by omega)).mono ?_
  rintro e w2 ⟨W, s, n, cg, xs, rfl, hR, hn, hg, hf, _⟩
  have hR := hR.row
  have zb := zb.out.grown hg (by omega)
  have bb2 := grown_cut bb.out hg (by omega) (by omega)
  have z0 := zb.c0
  have z1 := zb.c1
  have zf := zb.fz
  have bb2 := Lib.hid bb2
  have hR := Lib.hid hR
  clear zb bb hr hg
  go_wp2_with fail
  refine bodyPost_ret (v := .agg #[.int .i64 W, .slice s n cg]) (by simp [results, Try.results36, go_sem, z0, z1]) rfl ?_
  exact ⟨W, s, n, cg, xs, rfl, hR.out.apart (grown_set (grown_set (World.grownBy.refl _ (some w.heap.size)))) (fun b off e hl => by have := hf b off e hl; simp; omega), hn, (bb2.out.setCell (by simp) _).setCell (by simp) _⟩

end Go.Proofs.Ytgbbigekamapiaa

