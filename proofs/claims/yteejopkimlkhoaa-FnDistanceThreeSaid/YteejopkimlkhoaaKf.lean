/-
  The contracts of the laws' drawing functions of chapter 11.
-/
import Derived.Test.YteejopkimlkhoaaKe
namespace Go.Proofs.Yteejopkimlkhoaa
set_option maxRecDepth 100000
open Go.RowKit

/-- What is drawn: an image of at most six rows, valid or not, and a switch of small numbers. -/
def DrawnSw (w : World) (e : Ending) (w' : World) : Prop :=
  ∃ (W : Int) (s : Option Addr) (n cg : Nat) (xs : List Int) (A B C D : Int), e = .returned (.tuple #[.agg #[.int .i64 W, .slice s n cg], .agg #[.int .i64 A, .int .i64 B, .int .i64 C, .int .i64 D]]) ∧ Row w' s n xs ∧ (n ≤ 6 ∧ n ≤ cg) ∧ (0 ≤ A ∧ A ≤ 6 ∧ 0 ≤ B ∧ B ≤ 6 ∧ 0 ≤ C ∧ C ≤ 6 ∧ 0 ≤ D ∧ D ≤ 6) ∧ (∀ b off, s = some ⟨b, off, none⟩ → 0 < n → w.heap.size ≤ b) ∧ Below w.heap.size w w'
/-- The middle of the walk: the results' boxes, the image's box, the reader. -/
structure LDw (w wr : World) (kb r : Nat) (W : Int) (s : Option Addr) (n cg : Nat) (xs : List Int) (a : Option Addr) (len cap : Nat) (zs : List Int) (p : Nat) : Prop where
  x0 : wr.cell? ⟨w.heap.size, 0, none⟩ = some (.int .i64 0)
  x1 : wr.cell? ⟨w.heap.size, 1, none⟩ = some (.slice none 0 0)
  y0 : wr.cell? ⟨w.heap.size + 1, 0, none⟩ = some (.int .i64 0)
  y1 : wr.cell? ⟨w.heap.size + 1, 1, none⟩ = some (.int .i64 0)
  y2 : wr.cell? ⟨w.heap.size + 1, 2, none⟩ = some (.int .i64 0)
  y3 : wr.cell? ⟨w.heap.size + 1, 3, none⟩ = some (.int .i64 0)
  xf : ∀ o, wr.frozen? ⟨w.heap.size, o, none⟩ = false
  yf : ∀ o, wr.frozen? ⟨w.heap.size + 1, o, none⟩ = false
  b0 : wr.cell? ⟨kb, 0, none⟩ = some (.int .i64 W)
  b1 : wr.cell? ⟨kb, 1, none⟩ = some (.slice s n cg)
  row : Row wr s n xs
  rd : Rd wr r a len cap zs p
  bl : Below w.heap.size w wr
  hr : w.heap.size + 1 < r
  hk : kb ≠ r
  src : ∀ b off, s = some ⟨b, off, none⟩ → 0 < n → w.heap.size + 1 < b ∧ b ≠ r
theorem LDw.pick {w wr w1 : World} {kb r : Nat} {W : Int} {s : Option Addr} {n cg : Nat} {xs : List Int} {a : Option Addr} {len cap : Nat} {zs : List Int} {p p' : Nat} (h : LDw w wr kb r W s n cg xs a len cap zs p) (hr : Rd w1 r a len cap zs p') (hg : wr.grownBy w1 (some r)) : LDw w w1 kb r W s n cg xs a len cap zs p' := by
  have n1 := h.hr
  have n2 := h.hk
  exact ⟨hg.cell h.x0 (by simp; omega), hg.cell h.x1 (by simp; omega), hg.cell h.y0 (by simp; omega), hg.cell h.y1 (by simp; omega), hg.cell h.y2 (by simp; omega), hg.cell h.y3 (by simp; omega), fun o => (frozen_grown hg h.x0 (by omega)).trans (h.xf o), fun o => (frozen_grown hg h.y0 (by omega)).trans (h.yf o), hg.cell h.b0 (by simpa using n2), hg.cell h.b1 (by simpa using n2), h.row.apart hg (fun b off e hl => by have := h.src b off e hl; simp; omega), hr, grown_cut h.bl hg (by omega) h.bl.size, h.hr, h.hk, h.src⟩
theorem LDw.bel {w wr w1 : World} {kb r : Nat} {W : Int} {s : Option Addr} {n cg : Nat} {xs : List Int} {a : Option Addr} {len cap : Nat} {zs : List Int} {p : Nat} (h : LDw w wr kb r W s n cg xs a len cap zs p) (hb : Below wr.heap.size wr w1) : LDw w w1 kb r W s n cg xs a len cap zs p :=
  h.pick (h.rd.bel hb) (below_grown hb _)
theorem LDw.out {w wr : World} {kb r : Nat} {W : Int} {s : Option Addr} {n cg : Nat} {xs : List Int} {a : Option Addr} {len cap : Nat} {zs : List Int} {p : Nat} {v0 v1 v2 v3 v4 v5 : Value} {A B C D : Int} (h : LDw w wr kb r W s n cg xs a len cap zs p) (hn : n ≤ 6 ∧ n ≤ cg) (hv : 0 ≤ A ∧ A ≤ 6 ∧ 0 ≤ B ∧ B ≤ 6 ∧ 0 ≤ C ∧ C ≤ 6 ∧ 0 ≤ D ∧ D ≤ 6) :
    DrawnSw w (.returned (.tuple #[.agg #[.int .i64 W, .slice s n cg], .agg #[.int .i64 A, .int .i64 B, .int .i64 C, .int .i64 D]])) ((((((wr.setCell ⟨w.heap.size, 0, none⟩ v0).setCell ⟨w.heap.size, 1, none⟩ v1).setCell ⟨w.heap.size + 1, 0, none⟩ v2).setCell ⟨w.heap.size + 1, 1, none⟩ v3).setCell ⟨w.heap.size + 1, 2, none⟩ v4).setCell ⟨w.heap.size + 1, 3, none⟩ v5) := by
  refine ⟨W, s, n, cg, xs, A, B, C, D, rfl, ?_, hn, hv, fun b off e hl => by have := h.src b off e hl; omega, (((((h.bl.setCell (by simp) _).setCell (by simp) _).setCell (by simp) _).setCell (by simp) _).setCell (by simp) _).setCell (by simp) _⟩
  have h1 := h.row.apart (grown_set (v := v1) (j := 1) (grown_set (v := v0) (j := 0) (World.grownBy.refl wr (some w.heap.size)))) (fun b off e hl => by have := h.src b off e hl; simp; omega)
  exact h1.apart (grown_set (grown_set (grown_set (grown_set (World.grownBy.refl _ (some (w.heap.size + 1))))))) (fun b off e hl => by have := h.src b off e hl; simp; omega)

theorem off2 {V : World} {b c i j : Nat} {u : Value} (h : b ≠ c) : (V.setCell ⟨c, i, none⟩ u).cell? ⟨b, j, none⟩ = V.cell? ⟨b, j, none⟩ :=
  World.cell?_setCell_other _ _ _ _ (by first | (simp; done) | (simp; omega))

end Go.Proofs.Yteejopkimlkhoaa

