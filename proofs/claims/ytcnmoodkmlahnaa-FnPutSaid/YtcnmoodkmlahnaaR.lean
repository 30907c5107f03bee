/-
  The contract of the model's ImageOther.
-/
import Derived.Test.YtcnmoodkmlahnaaP
namespace Go.Proofs.Ytcnmoodkmlahnaa
open Go.RowKit

/-- What stands when a function has copied its argument: as Made, with the copy's row and its capacity. -/
structure Copied (w W0 : World) (g k2 : Nat) (WA : Int) (a : Option Addr) (len cap : Nat) (xs : List Int) (Wb : Int) (n c : Nat) (ys : List Int) : Prop where
  x0 : W0.cell? ⟨w.heap.size, 0, none⟩ = some (.int .i64 WA)
  x1 : W0.cell? ⟨w.heap.size, 1, none⟩ = some (.slice a len cap)
  y0 : W0.cell? ⟨w.heap.size + 1, 0, none⟩ = some (.int .i64 0)
  y1 : W0.cell? ⟨w.heap.size + 1, 1, none⟩ = some (.slice none 0 0)
  yf : ∀ o, W0.frozen? ⟨w.heap.size + 1, o, none⟩ = false
  b0 : W0.cell? ⟨k2, 0, none⟩ = some (.int .i64 Wb)
  b1 : W0.cell? ⟨k2, 1, none⟩ = some (.slice (some ⟨g, 0, none⟩) n c)
  row : Row W0 a len xs
  own : OwnI W0 (w.heap.size + 2) (some ⟨g, 0, none⟩) n c ys
  bel : Below w.heap.size w W0
  ne : k2 ≠ g
  far : ∀ b off, a = some ⟨b, off, none⟩ → 0 < len → b ≠ g
  hg : w.heap.size + 2 ≤ g
  hk : w.heap.size + 2 ≤ k2

theorem Made.of_copy {w w1 w2 : World} {WA Wb : Int} {a : Option Addr} {len cap n g c : Nat} {xs ys : List Int} (hz : w.heap.size + 1 < w1.heap.size) (bb : Below w.heap.size w w1)
    (x0 : w1.cell? ⟨w.heap.size, 0, none⟩ = some (.int .i64 WA)) (x1 : w1.cell? ⟨w.heap.size, 1, none⟩ = some (.slice a len cap)) (y0 : w1.cell? ⟨w.heap.size + 1, 0, none⟩ = some (.int .i64 0)) (y1 : w1.cell? ⟨w.heap.size + 1, 1, none⟩ = some (.slice none 0 0)) (yf : ∀ o, w1.frozen? ⟨w.heap.size + 1, o, none⟩ = false) (h : Row w1 a len xs)
    (hb : Below w1.heap.size w1 w2) (hg : w1.heap.size ≤ g) (ho : OwnI w2 w1.heap.size (some ⟨g, 0, none⟩) n c ys) :
    Copied w (w2.alloc (.cells #[.int .i64 Wb, .slice (some ⟨g, 0, none⟩) n c] 25)) g w2.heap.size WA a len cap xs Wb n c ys := by
  have hB : Below w1.heap.size w1 (w2.alloc (.cells #[.int .i64 Wb, .slice (some ⟨g, 0, none⟩) n c] 25)) := hb.alloc hb.size _
  have hs := hb.size
  have hgl : g < w2.heap.size := by
    rcases ho.cases with ⟨e, _⟩ | ⟨g', e, _, h3⟩
    · cases e
    · simp only [Option.some.injEq, Addr.mk.injEq, and_true] at e; omega
  exact ⟨kept hB (show _ < _ by simp; omega) x0, kept hB (show _ < _ by simp; omega) x1, kept hB (by simpa using hz) y0, kept hB (by simpa using hz) y1, fun o => (hB.frozen (by simpa using hz)).trans (yf o), by go_simp, by go_simp, h.bel hB,
    (ho.mono (by omega)).bel ((Below.refl _ _).alloc (Nat.le_refl _) _), bb.trans (hB.mono (by omega)), by omega, row_far h hg, by omega, by omega⟩

end Go.Proofs.Ytcnmoodkmlahnaa

